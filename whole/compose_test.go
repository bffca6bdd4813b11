package whole_test

import (
	"math"
	"math/rand"
	"slices"
	"testing"

	"attest/api"
	"attest/code"
	"attest/field"
	"attest/plain"
	"attest/rules"
	"attest/whole"
)

// composed gives a word, which there is.
func composed(t *testing.T, f *field.Field, c api.Code, outcome int, rows [][]int, z []int, x, y, a int) []int {
	t.Helper()
	word, err := whole.Compose(f, c, outcome, rows, z, x, y, a)
	if err != nil || len(word) != 8*len(rows) {
		t.Fatalf("Compose of %d rows: %d elements, error %v", len(rows), len(word), err)
	}
	return word
}

// anyNumber is small, or great, or an edge.
func anyNumber(r *rand.Rand) int {
	switch r.Intn(4) {
	case 0:
		return []int{0, 1, -1, math.MaxInt, math.MinInt, 97, 1 << 32}[r.Intn(7)]
	case 1:
		return int(r.Uint64())
	}
	return r.Intn(200) - 50
}

func numbers(r *rand.Rand, n int) []int {
	out := make([]int, n)
	for i := range out {
		out[i] = anyNumber(r)
	}
	return out
}

func TestW2AnyRows(t *testing.T) {
	r := rand.New(rand.NewSource(214))
	for _, fit := range [][2]int{{97, 4}, {193, 4}, {193, 8}, {257, 8}, {257, 16}, {12289, 4}, {great, 4}, {great, 8}} {
		f, n := fieldOf(t, fit[0]), fit[1]
		for range 12 {
			c := api.Code{Size: anyNumber(r)}
			for range 1 + r.Intn(5) {
				c.List = append(c.List, api.Ins{Op: r.Intn(16) - 1, A: anyNumber(r), B: anyNumber(r), C: anyNumber(r)})
			}
			rows := make([][]int, n)
			for i := range rows {
				rows[i] = numbers(r, rules.Width(c))
			}
			z, outcome, x, y, a := numbers(r, n), anyNumber(r), anyNumber(r), anyNumber(r), anyNumber(r)
			got := composed(t, f, c, outcome, rows, z, x, y, a)
			want := composedBy(f, c, outcome, rows, z, x, y, a)
			same(t, got, want, "Compose over %d of %v, outcome %d, rows %v, z %v, with %d %d %d", f.P(), c, outcome, rows, z, x, y, a)
		}
	}
}

func TestW2Tables(t *testing.T) {
	r := rand.New(rand.NewSource(215))
	for _, k := range runs(t)[:8] {
		f, rows := fieldOf(t, k.p), k.table(t)
		x, y, a := r.Intn(k.p), r.Intn(k.p), r.Intn(k.p)
		z, ok := rules.Product(f, rows, x, y)
		if !ok {
			z = numbers(r, k.n)
		}
		got := composed(t, f, k.c, k.outcome, rows, z, x, y, a)
		same(t, got, composedBy(f, k.c, k.outcome, rows, z, x, y, a), "Compose of %v", k)
		// Numbers are taken for elements.
		far := copiedRows(rows)
		for i := range far {
			far[i][i%len(far[i])] -= 3 * k.p
			z[i] += k.p
		}
		same(t, composed(t, f, k.c, k.outcome-k.p, far, z, x+k.p, y-k.p, a+5*k.p), got, "Compose of %v with other numbers for the same elements", k)
	}
}

// TestW2TheFirstRuleAlone: with 0 for a, of which no factor is 1, what rule 0 says is all that counts.
func TestW2TheFirstRuleAlone(t *testing.T) {
	k := run{97, quotient(), 4, 17}
	f, rows, z := fieldOf(t, 97), k.table(t), []int{7, 2, 3, 4}
	rows[1][0], rows[3][21] = 60, 9 // breaks other rules
	same(t, isCodeword(t, f, k.c, k.outcome+1, rows, z, 5, 6, []int{0}), true, "whether Compose by 0 is a codeword where rule 0 holds")
	same(t, isCodeword(t, f, k.c, k.outcome+1, rows, z, 5, 6, []int{1}), false, "whether Compose by 1 is one")
	rows[2][20] = 7
	same(t, isCodeword(t, f, k.c, k.outcome+1, rows, z, 5, 6, []int{0}), false, "whether Compose by 0 is one where rule 0 does not hold")
}

func copiedRows(rows [][]int) [][]int {
	out := make([][]int, len(rows))
	for i, row := range rows {
		out[i] = slices.Clone(row)
	}
	return out
}

func TestW2Sizes(t *testing.T) {
	f, k := fieldOf(t, great), run{great, five(), 4, 5}
	rows := k.table(t)
	z := []int{1, 1, 1, 1}
	wrong := func(c api.Code, rows [][]int, z []int, what string) {
		t.Helper()
		word, err := whole.Compose(f, c, 5, rows, z, 3, 4, 5)
		same(t, []any{plain.Told(err), len(word)}, []any{api.ErrSize, 0}, "Compose of %s", what)
	}
	composed(t, f, k.c, 5, rows, z, 3, 4, 5)
	wrong(k.c, nil, nil, "nothing")
	wrong(k.c, rows, nil, "no z")
	wrong(k.c, rows, z[:3], "a z that is too short")
	wrong(k.c, rows, append(slices.Clone(z), 1), "a z that is too long")
	wrong(k.c, rows[:3], z[:3], "three rows")
	wrong(k.c, rows[:2], z[:2], "two rows")
	wrong(k.c, rows[:3], z, "fewer rows than z")
	wrong(k.c, append(copiedRows(rows), rows[3]), append(slices.Clone(z), 1), "five rows")
	wrong(k.c, slices.Concat(rows, rows), z, "eight rows and a z of four")
	wrong(quotient(), rows, z, "rows of other code")
	wrong(api.Code{Size: 1}, rows, z, "no instruction")
	wrong(api.Code{Size: 1}, zeros(4, 20), z, "no instruction, and rows of its width")
	for i := range rows {
		for _, wide := range []int{0, 1, 20, 21, 23} {
			other := copiedRows(rows)
			other[i] = make([]int, wide)
			wrong(k.c, other, z, "a row that has not the width")
		}
	}
	many := zeros(1024, 22)
	wrong(k.c, many, make([]int, 1024), "1024 rows")
	composed(t, f, k.c, 5, many[:512], make([]int, 512), 3, 4, 5)
	composed(t, f, api.Code{Size: math.MinInt, List: k.c.List}, 5, rows, z, 3, 4, 5) // of the Size nothing is asked
}

// keeps tells whether rows and z break none of the rules.
func keeps(f *field.Field, c api.Code, outcome int, rows [][]int, z []int, x, y int) bool {
	s := sums{f.P()}
	if rules.Broken(f, c, outcome, rows).Rule != -1 || s.of(z[0]) != 1 {
		return false
	}
	for i, row := range rows {
		next := z[(i+1)%len(z)]
		if s.times(next, s.factor(row, 12, 16, x, y)) != s.times(z[i], s.factor(row, 3, 7, x, y)) {
			return false
		}
	}
	return true
}

// isCodeword tells whether Compose is one with each of some a.
func isCodeword(t *testing.T, f *field.Field, c api.Code, outcome int, rows [][]int, z []int, x, y int, by []int) bool {
	t.Helper()
	d := domainOf(t, f.P(), 8*len(rows), f.Generator())
	return !slices.ContainsFunc(by, func(a int) bool {
		return !code.Is(d, 4*len(rows), composed(t, f, c, outcome, rows, z, x, y, a))
	})
}

func TestW3WhatKeepsTheRulesIsACodeword(t *testing.T) {
	r := rand.New(rand.NewSource(314))
	for _, k := range runs(t)[:10] {
		f, rows := fieldOf(t, k.p), k.table(t)
		there := 0
		for range 6 {
			x, y := r.Intn(k.p), r.Intn(k.p)
			z, ok := rules.Product(f, rows, x, y)
			if !ok {
				continue
			}
			there++
			by := []int{0, 1, -1, r.Intn(k.p), r.Intn(k.p)}
			same(t, keeps(f, k.c, k.outcome, rows, z, x, y), true, "whether the rules hold for %v", k)
			same(t, isCodeword(t, f, k.c, k.outcome, rows, z, x, y, by), true, "whether Compose of %v is a codeword", k)
		}
		if there == 0 {
			t.Errorf("%v has no Product", k)
		}
	}
}

// upTo gives the numbers below n.
func upTo(n int) []int {
	out := make([]int, n)
	for i := range out {
		out[i] = i
	}
	return out
}

// TestW3EachElementChanged: each change either breaks no rule, and makes no difference to any a, or is seen by one of L + 28.
func TestW3EachElementChanged(t *testing.T) {
	t.Parallel()
	const x, y = 50, 41
	for _, k := range []run{{97, five(), 4, 5}, {97, quotient(), 4, 17}, {193, five(), 8, 5}} {
		f, rows, met := fieldOf(t, k.p), k.table(t), map[bool]int{}
		z, ok := rules.Product(f, rows, x, y)
		if !ok {
			t.Fatalf("%v has no Product", k)
		}
		sees := func(outcome int, rows [][]int, z []int, what string, args ...any) {
			t.Helper()
			kept := keeps(f, k.c, outcome, rows, z, x, y)
			met[kept]++
			by := upTo(len(k.c.List) + 28)
			if kept {
				by = upTo(k.p)
			}
			same(t, isCodeword(t, f, k.c, outcome, rows, z, x, y, by), kept, what, args...)
		}
		sees(k.outcome, rows, z, "whether Compose of %v is a codeword with all a", k)
		sees(k.outcome+1, rows, z, "whether Compose of %v with another outcome is one", k)
		for i := range rows {
			other := slices.Clone(z)
			other[i]++
			sees(k.outcome, rows, other, "whether Compose of %v with another z in row %d is one", k, i)
			for j := range rows[i] {
				changed := copiedRows(rows)
				changed[i][j]++
				sees(k.outcome, changed, z, "whether Compose of %v with another element %d of row %d is one", k, j, i)
			}
		}
		if met[true] < 2 || met[false] < 50 {
			t.Errorf("%v: rules that hold, or do not, were met too seldom: %v", k, met)
		}
		twice := slices.Clone(z)
		for i := range twice {
			twice[i] = f.Mul(2, twice[i]) // all rules hold but the last one
		}
		sees(k.outcome, rows, twice, "whether Compose of %v with twice its z is one", k)
	}
}

// TestW3TheRowBehindTheLast: the rule L + 26 holds from the last row to the first one, too.
func TestW3TheRowBehindTheLast(t *testing.T) {
	const x, y = 50, 41
	f, c := fieldOf(t, 97), five()
	rows := run{97, c, 4, 5}.table(t)
	// Where the last row of all has other pairs that are met, all rows ahead keep the rule.
	rows[3][6], rows[3][10] = 1, 5
	z, ok := rules.Product(f, rows, x, y)
	same(t, ok, true, "Product")
	same(t, rules.Broken(f, c, 5, rows), api.Broken{Rule: -1}, "Broken")
	same(t, isCodeword(t, f, c, 5, rows, z, x, y, upTo(30)), false, "whether Compose of pairs that are not alike is a codeword")
}
