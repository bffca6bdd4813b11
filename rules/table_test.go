package rules_test

import (
	"fmt"
	"math"
	"math/rand"
	"slices"
	"sort"
	"testing"

	"attest/api"
	"attest/field"
	"attest/machine"
	"attest/plain"
	"attest/rules"
)

// endsBy sees that Table tells an error, and nothing else.
func endsBy(t *testing.T, p int, c api.Code, n int, want api.Errno) {
	t.Helper()
	rows, outcome, err := rules.Table(fieldOf(t, p), c, n)
	if plain.Told(err) != want || len(rows) != 0 || outcome != 0 {
		t.Errorf("Table of %d instructions of the size %d over %d with %d: got %d rows, outcome %d, error %v, want the error %v",
			len(c.List), c.Size, p, n, len(rows), outcome, err, want)
	}
}

// inverse is what makes 1 of an element, tried out where the prime is small.
func inverse(a, p int) int {
	a = (a%p + p) % p
	out, n := 1, p-2
	for ; n > 0; n /= 2 {
		if n%2 == 1 {
			out = out * a % p
		}
		a = a * a % p
	}
	return out
}

// shown is what R1 says that rows are, by its words, but slowly: each element is looked at, from 0 on, whether it is a hole.
func shown(p int, c api.Code, steps []api.Step, n int) (rows [][]int, full bool) {
	used, greatest := map[int]int{}, 0
	for i := range n {
		s := steps[min(i, len(steps)-1)]
		h := 0
		switch c.List[s.PC].Op {
		case api.OpDiv:
			h = inverse(s.Is[1], p)
		case api.OpSame:
			h = inverse(s.Is[0]-s.Is[1], p)
		case api.OpZero:
			h = inverse(s.Is[0], p)
		}
		row := []int{s.FP, s.AP, s.RV, s.At[0], s.At[1], s.At[2], 0, s.Is[0], s.Is[1], s.Is[2], 0, h, 0, 0, 0, 0, 0, 0, 0, 0}
		for k := range c.List {
			row = append(row, map[bool]int{true: 1}[k == s.PC])
		}
		rows = append(rows, row)
		for _, a := range s.At {
			used[a]++
			greatest = max(greatest, a)
		}
	}
	row := 0
	for a := range greatest {
		if used[a] > 0 {
			continue
		}
		if row == n {
			return nil, true
		}
		rows[row][6] = a
		row++
	}
	var pairs [][2]int
	for _, row := range rows {
		for j := range 4 {
			pairs = append(pairs, [2]int{row[3+j], row[7+j]})
		}
	}
	sort.Slice(pairs, func(i, j int) bool {
		a, b := pairs[i], pairs[j]
		return a[0] < b[0] || a[0] == b[0] && a[1] < b[1]
	})
	for i, pair := range pairs {
		rows[i/4][12+i%4], rows[i/4][16+i%4] = pair[0], pair[1]
	}
	return rows, false
}

// isAsTold sees that Table answers what R1 says, with what Walk tells, and that R3 holds; it gives the error.
func isAsTold(t *testing.T, f *field.Field, c api.Code, n int) api.Errno {
	t.Helper()
	what := fmt.Sprintf("%v over %d with %d", c, f.P(), n)
	steps, err := machine.Walk(f, c, n-1)
	if err != nil {
		endsBy(t, f.P(), c, n, plain.Told(err))
		return plain.Told(err)
	}
	want, full := shown(f.P(), c, steps, n)
	if full {
		endsBy(t, f.P(), c, n, api.ErrFull)
		return api.ErrFull
	}
	rows, outcome := table(t, f.P(), c, n)
	same(t, rows, want, "Table of %s", what)
	same(t, outcome, steps[len(steps)-1].Is[0], "the outcome of %s", what)
	same(t, rules.Broken(f, c, outcome, rows), api.Broken{Rule: -1}, "Broken of the table of %s", what)
	same(t, rules.Alike(f, rows), true, "Alike of the table of %s", what)
	return api.OK
}

func TestR1AndR3Programs(t *testing.T) {
	for _, p := range primes[4:] {
		for _, program := range programs {
			c := codeOf(t, 2147483647, program.text, program.input)
			if len(c.List) > p {
				continue
			}
			ends := 0
			for _, n := range []int{1, 2, 3, 8, 16, 31, 32, 33, 64, 128, 512} {
				if isAsTold(t, fieldOf(t, p), c, n) == api.OK {
					ends++
				}
			}
			if ends < 3 {
				t.Errorf("%q over %d: shown only %d times", program.text, p, ends)
			}
		}
	}
}

func TestR1AndR3WildCode(t *testing.T) {
	r := rand.New(rand.NewSource(13))
	met := map[api.Errno]int{}
	for range 50000 {
		p := primes[r.Intn(len(primes)-2)] // each element is looked at, so no great prime
		met[isAsTold(t, fieldOf(t, p), wildCode(r, p), 1+r.Intn(8))]++
	}
	for _, e := range []api.Errno{api.OK, api.ErrSize, api.ErrStuck, api.ErrLong, api.ErrFull, api.ErrBlank} {
		if met[e] < 100 {
			t.Errorf("%v was met only %d times", e, met[e])
		}
	}
}

func TestR1AndR3GreatNumbers(t *testing.T) {
	for _, p := range primes[4:] {
		c := everyOp()
		plainly, _ := table(t, p, c, 24)
		far := p * (math.MaxInt/p - 1)
		for i := range c.List {
			in := &c.List[i]
			in.A, in.B, in.C = in.A+far, in.B-far, in.C+far
		}
		rows, _ := table(t, p, c, 24)
		same(t, rows, plainly, "Table of great numbers over %d", p)
		isAsTold(t, fieldOf(t, p), c, 24)
		c = code(1, api.OpCall, 1, math.MaxInt, 0, api.OpHalt, -2, 0, 0)
		if isAsTold(t, fieldOf(t, p), c, 2) != api.OK {
			t.Errorf("a call with as many cells of its own as may be is not shown over %d", p)
		}
	}
}

func TestR1Sizes(t *testing.T) {
	blank, stuck := code(0, api.OpHalt, 0, 0, 0), code(0, 14, 0, 0, 0)
	for _, n := range []int{0, -1, 513, 514, math.MinInt, math.MaxInt} {
		for _, c := range []api.Code{five(), blank, stuck, {}, {Size: -1}} {
			endsBy(t, 97, c, n, api.ErrSize)
		}
	}
	for _, n := range []int{1, 2, 511, 512} {
		endsBy(t, 97, blank, n, api.ErrBlank)
		endsBy(t, 97, code(0), n, api.ErrSize)
		endsBy(t, 97, code(-1, api.OpHalt, -1, 0, 0), n, api.ErrSize)
		endsBy(t, 97, code(api.MaxSize+1, api.OpHalt, -1, 0, 0), n, api.ErrSize)
		rows, outcome := table(t, 97, code(api.MaxSize, api.OpHalt, -1, 0, 0), n)
		same(t, outcome, 0, "the outcome of cell 0 in %d rows", n)
		same(t, len(rows[n-1]), 21, "the elements of a row")
	}
	endsBy(t, 97, stuck, 2, api.ErrStuck)
	endsBy(t, 97, stuck, 1, api.ErrLong)
}

func TestR1AsManyInstructionsAsMayBe(t *testing.T) {
	list := slices.Repeat([]api.Ins{{Op: api.OpSet, A: 0, B: 3}}, 63)
	c := api.Code{Size: 1, List: append(list, api.Ins{Op: api.OpHalt})}
	if isAsTold(t, fieldOf(t, 97), c, 64) != api.OK || isAsTold(t, fieldOf(t, 97), c, 63) != api.ErrLong {
		t.Errorf("64 instructions are not shown as they should be")
	}
	rows, _ := table(t, 97, c, 512)
	same(t, len(rows[511]), 84, "the elements of a row")
	c.List = append(c.List, api.Ins{Op: api.OpHalt})
	endsBy(t, 97, c, 64, api.ErrSize)
	c.List = slices.Insert(c.List, 0, api.Ins{Op: api.OpHalt, A: -1}) // however short its run is
	endsBy(t, 97, c, 64, api.ErrSize)
	endsBy(t, 7, code(1, slices.Repeat([]int{api.OpHalt, -1, 0, 0}, 8)...), 1, api.ErrSize)
	if isAsTold(t, fieldOf(t, 7), code(1, slices.Repeat([]int{api.OpHalt, -1, 0, 0}, 7)...), 1) != api.OK {
		t.Errorf("as many instructions as elements are not shown")
	}
}

func TestR1LimitIsOneLessThanRows(t *testing.T) {
	endsBy(t, 97, five(), 1, api.ErrLong)
	table(t, 97, five(), 2)
	loop := code(0, api.OpJump, 0, 0, 0)
	endsBy(t, 97, loop, 512, api.ErrLong)
	for _, n := range []int{510, 511, 512} {
		c := code(1, api.OpSet, 0, n-1, 0, api.OpHalt, 0, 0, 0)
		rows, outcome := table(t, 12289, c, n)
		same(t, outcome, n-1, "the outcome")
		same(t, rows[n-1][:12], rows[1][:12], "what the last row shows, but for its pairs")
	}
}

func TestR1Holes(t *testing.T) {
	// The cells are 0 and 1 + far: there are far holes, a row for each.
	for _, p := range []int{97, 12289, 2147483647} {
		for _, n := range []int{2, 3, 40, 50, 512} {
			if n+2 > p {
				continue
			}
			at := func(far int) api.Code { return code(1, api.OpSet, far, 6, 0, api.OpHalt, far, 0, 0) }
			rows, _ := table(t, p, at(n), n)
			for i, row := range rows {
				same(t, []int{row[6], row[10]}, []int{i + 1, 0}, "a3 and v3 of row %d of %d", i, n)
			}
			endsBy(t, p, at(n+1), n, api.ErrFull)
			endsBy(t, p, at(-2), n, api.ErrFull)
			rows, _ = table(t, p, at(n-1), n)
			same(t, []int{rows[n-1][6], rows[n-1][10]}, []int{0, 0}, "where there is no hole")
		}
	}
	// Holes between cells are found in order.
	c := code(0, api.OpSet, 3, 1, 0, api.OpSet, 1, 1, 0, api.OpSet, 6, 1, 0, api.OpHalt, 3, 0, 0)
	rows, _ := table(t, 97, c, 5)
	for i, want := range []int{1, 3, 5, 6, 0} {
		same(t, rows[i][6], want, "a3 of row %d", i)
	}
	endsBy(t, 97, code(1, api.OpSet, -2, 6, 0, api.OpHalt, -2, 0, 0), 94, api.ErrFull)
	table(t, 97, code(1, api.OpSet, -2, 6, 0, api.OpHalt, -2, 0, 0), 95)
}

func TestR1Help(t *testing.T) {
	c := code(9, api.OpSet, 0, 3, 0, api.OpSet, 1, 4, 0, api.OpDiv, 0, 1, 2, api.OpSame, 0, 1, 3, api.OpSame, 0, 0, 4,
		api.OpZero, 0, 0, 0, api.OpZero, 3, 7, 0, api.OpMust, 4, 4, 0, api.OpMul, 0, 1, 5, api.OpHalt, 0, 0, 0)
	rows, _ := table(t, 97, c, 10)
	for i, want := range []int{0, 0, 73, 96, 0, 65, 0, 0, 0, 0} {
		same(t, rows[i][11], want, "h of row %d", i)
	}
}
