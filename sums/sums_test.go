package sums_test

import (
	"fmt"
	"math"
	"math/big"
	"math/rand"
	"slices"
	"testing"

	"attest/api"
	"attest/field"
	"attest/plain"
	"attest/sums"
)

// primes: the least, which is below the greatest number of tables; those next to it; some; and the greatest.
var primes = []int{3, 5, 7, 17, 97, 12289, 2013265921, 2147483647}

func fieldOf(t *testing.T, p int) *field.Field {
	t.Helper()
	f, err := field.New(p)
	if err != nil || f == nil {
		t.Fatalf("field.New(%d): %v", p, err)
	}
	return f
}

func eachField(t *testing.T, work func(p int, f *field.Field)) {
	t.Helper()
	for _, p := range primes {
		work(p, fieldOf(t, p))
	}
}

func same(t *testing.T, got, want any, what string, args ...any) {
	t.Helper()
	if g, w := fmt.Sprint(got), fmt.Sprint(want); g != w {
		t.Errorf("%s: got %s, want %s", fmt.Sprintf(what, args...), g, w)
	}
}

func told(t *testing.T, err error, want api.Errno, what string, args ...any) {
	t.Helper()
	if got := plain.Told(err); got != want || err != nil && want == api.OK {
		t.Errorf("%s: got %v, want %v", fmt.Sprintf(what, args...), err, want)
	}
}

// someNumber draws an element, one that differs from it, or any number.
func someNumber(r *rand.Rand, p int) int {
	switch r.Intn(8) {
	case 0:
		return int(r.Uint64())
	case 1:
		return p * (r.Intn(5) - 2)
	case 2:
		return []int{math.MinInt, math.MaxInt, -1, p, p - 1, 1}[r.Intn(6)]
	}
	return r.Intn(p)
}

func someList(r *rand.Rand, p, n int) []int {
	out := make([]int, n)
	for i := range out {
		out[i] = someNumber(r, p)
	}
	return out
}

func someTables(r *rand.Rand, p, d, v int) [][]int {
	out := make([][]int, d)
	for i := range out {
		out[i] = someList(r, p, 1<<v)
	}
	return out
}

// element is reckoned by big numbers.
func element(n, p int) int {
	return int(new(big.Int).Mod(big.NewInt(int64(n)), big.NewInt(int64(p))).Int64())
}

// times gives the product of two numbers, as an element.
func times(a, b, p int) int { return element(element(a, p)*element(b, p), p) }

// bitsOf gives those of a place, the greatest first.
func bitsOf(place, v int) []int {
	out := make([]int, v)
	for j := range out {
		out[j] = place >> (v - 1 - j) & 1
	}
	return out
}

// extendBy works Extend out as U1 says it: place by place.
func extendBy(p int, table, at []int) int {
	sum := 0
	for i, n := range table {
		product := element(n, p)
		for j, bit := range bitsOf(i, len(at)) {
			x := element(at[j], p)
			if bit == 0 {
				x = element(1-x, p)
			}
			product = times(product, x, p)
		}
		sum = element(sum+product, p)
	}
	return sum
}

// fixBy works Fix out as U2 says it.
func fixBy(p int, table []int, r int) []int {
	h := len(table) / 2
	out := make([]int, h)
	for i := range out {
		out[i] = element(times(table[i], 1-element(r, p), p)+times(table[i+h], r, p), p)
	}
	return out
}

func fixAllBy(p int, tables [][]int, r int) (out [][]int) {
	for _, table := range tables {
		out = append(out, fixBy(p, table, r))
	}
	return out
}

// totalBy works Total out as U3 says it.
func totalBy(p int, tables [][]int) int {
	sum := 0
	for i := range tables[0] {
		product := 1
		for _, table := range tables {
			product = times(product, table[i], p)
		}
		sum = element(sum+product, p)
	}
	return sum
}

// noTables: lists that are no table: of a length that is no power of 2, or beyond that of MaxCube variables.
func noTables() [][]int {
	out := [][]int{nil, {}}
	for _, n := range []int{3, 5, 6, 7, 9, 12, 1000, 2048 + 1024, 4095, 4097, 8192, 65536, 1 << 17} {
		out = append(out, make([]int, n))
	}
	return out
}

func TestU1ExtendIsTheSumOverAllPlaces(t *testing.T) {
	r := rand.New(rand.NewSource(1))
	eachField(t, func(p int, f *field.Field) {
		for v := range api.MaxCube + 1 {
			for range max(1, 24>>v) {
				table, at := someList(r, p, 1<<v), someList(r, p, v)
				got, err := sums.Extend(f, table, at)
				told(t, err, api.OK, "p = %d: Extend over %d variables", p, v)
				same(t, got, extendBy(p, table, at), "p = %d: Extend of %v at %v", p, table, at)
			}
		}
	})
}

func TestU1AtItsOwnBitsItIsWhatStandsThere(t *testing.T) {
	r := rand.New(rand.NewSource(2))
	eachField(t, func(p int, f *field.Field) {
		for _, v := range []int{0, 1, 2, 3, 5, api.MaxCube} {
			table := someList(r, p, 1<<v)
			for i := 0; i < len(table); i += 1 + len(table)/64 {
				at := bitsOf(i, v)
				got, err := sums.Extend(f, table, at)
				told(t, err, api.OK, "p = %d: Extend at place %d", p, i)
				same(t, got, element(table[i], p), "p = %d: Extend of %d variables at the bits of %d", p, v, i)
			}
		}
	})
}

func TestU1FirstVariableIsTheGreatestBit(t *testing.T) {
	f := fieldOf(t, 97)
	for i, at := range [][]int{{0, 0}, {0, 1}, {1, 0}, {1, 1}} {
		got, err := sums.Extend(f, []int{10, 20, 30, 40}, at)
		told(t, err, api.OK, "Extend at %v", at)
		same(t, got, 10*(i+1), "Extend at %v", at)
	}
}

func TestU1ExtendOfWrongSizes(t *testing.T) {
	f := fieldOf(t, 17)
	ask := func(table, at []int) {
		t.Helper()
		got, err := sums.Extend(f, table, at)
		told(t, err, api.ErrSize, "Extend of %d at %d", len(table), len(at))
		same(t, got, 0, "Extend of %d at %d", len(table), len(at))
	}
	for _, none := range noTables() {
		for v := range api.MaxCube + 6 {
			ask(none, slices.Repeat([]int{1}, v))
		}
	}
	for v := range api.MaxCube + 1 {
		for n := range api.MaxCube + 3 {
			if n != v {
				ask(slices.Repeat([]int{1}, 1<<v), make([]int, n))
			}
		}
	}
}

func TestU2FixLetsTheFirstVariableBe(t *testing.T) {
	r := rand.New(rand.NewSource(3))
	eachField(t, func(p int, f *field.Field) {
		for v := 1; v <= api.MaxCube; v++ {
			table := someList(r, p, 1<<v)
			for _, x := range []int{0, 1, 2, p - 1, p, -1, math.MinInt, math.MaxInt, someNumber(r, p)} {
				got, err := sums.Fix(f, table, x)
				told(t, err, api.OK, "p = %d: Fix over %d variables", p, v)
				if !slices.Equal(got, fixBy(p, table, x)) {
					t.Errorf("p = %d: Fix of %v by %d: got %v", p, table, x, got)
				}
			}
		}
	})
}

func TestU2ExtendIsFixByOneAfterTheOther(t *testing.T) {
	r := rand.New(rand.NewSource(4))
	eachField(t, func(p int, f *field.Field) {
		for v := range api.MaxCube + 1 {
			table, at := someList(r, p, 1<<v), someList(r, p, v)
			want, err := sums.Extend(f, table, at)
			told(t, err, api.OK, "Extend")
			for j, x := range at {
				table, err = sums.Fix(f, table, x)
				told(t, err, api.OK, "Fix")
				got, err := sums.Extend(f, table, at[j+1:])
				told(t, err, api.OK, "Extend behind %d times Fix", j+1)
				same(t, got, want, "p = %d: Extend behind %d times Fix", p, j+1)
			}
		}
	})
}

func TestU2FixOfWrongSizes(t *testing.T) {
	f := fieldOf(t, 17)
	for _, none := range append(noTables(), []int{5}) {
		for _, x := range []int{0, 1, 5, math.MinInt} {
			got, err := sums.Fix(f, none, x)
			told(t, err, api.ErrSize, "Fix of %d", len(none))
			same(t, len(got), 0, "Fix of %d", len(none))
		}
	}
}

func TestU3TotalIsTheSumOfProducts(t *testing.T) {
	r := rand.New(rand.NewSource(5))
	eachField(t, func(p int, f *field.Field) {
		for d := 1; d <= api.MaxTables; d++ {
			for _, v := range []int{0, 1, 2, 3, 4, 7, api.MaxCube} {
				tables := someTables(r, p, d, v)
				got, err := sums.Total(f, tables)
				told(t, err, api.OK, "p = %d: Total of %d over %d", p, d, v)
				same(t, got, totalBy(p, tables), "p = %d: Total of %d over %d", p, d, v)
			}
		}
	})
}

func TestU3RoundIsTheTotalsOfTheFixed(t *testing.T) {
	r := rand.New(rand.NewSource(6))
	eachField(t, func(p int, f *field.Field) {
		for d := 1; d <= min(api.MaxTables, p-1); d++ {
			for _, v := range []int{1, 2, 3, 4, 7, api.MaxCube} {
				tables := someTables(r, p, d, v)
				got, err := sums.Round(f, tables)
				told(t, err, api.OK, "p = %d: Round of %d over %d", p, d, v)
				var want []int
				for x := range d + 1 {
					want = append(want, totalBy(p, fixAllBy(p, tables, x)))
				}
				same(t, got, want, "p = %d: Round of %d over %d", p, d, v)
				same(t, element(got[0]+got[1], p), totalBy(p, tables), "p = %d: what Round of %d over %d is at 0 and at 1", p, d, v)
			}
		}
	})
}

// fitBy gives what the polynomial of a degree below that of as many numbers, which is these at 0, 1, .., is at x.
func fitBy(p int, ys []int, x int) int {
	sum := 0
	for i, y := range ys {
		over, under := element(y, p), 1
		for j := range ys {
			if j != i {
				over, under = times(over, element(x, p)-j, p), times(under, i-j, p)
			}
		}
		inverse := new(big.Int).ModInverse(big.NewInt(int64(under)), big.NewInt(int64(p)))
		sum = element(sum+times(over, int(inverse.Int64()), p), p)
	}
	return sum
}

func TestU3RoundIsAPolynomialOfTheDegree(t *testing.T) {
	r := rand.New(rand.NewSource(7))
	eachField(t, func(p int, f *field.Field) {
		for d := 1; d <= min(api.MaxTables, p-1); d++ {
			tables := someTables(r, p, d, 3)
			got, err := sums.Round(f, tables)
			told(t, err, api.OK, "p = %d: Round of %d", p, d)
			for range 20 {
				x := someNumber(r, p)
				same(t, fitBy(p, got, x), totalBy(p, fixAllBy(p, tables, x)), "p = %d: Round's polynomial of %d at %d", p, d, x)
			}
		}
	})
}

// wrongTables: none, too many, with one that is none at each place, with two over unlike numbers of variables.
func wrongTables() [][][]int {
	out := [][][]int{nil, {}}
	for _, n := range []int{5, 6, 100} {
		for _, size := range []int{1, 2, 4} {
			out = append(out, slices.Repeat([][]int{make([]int, size)}, n))
		}
	}
	for d := 1; d <= api.MaxTables; d++ {
		for _, size := range []int{1, 2, 4, 4096} {
			for at := range d {
				for _, none := range noTables() {
					out = append(out, withTable(d, size, at, none))
				}
				if d > 1 {
					out = append(out, withTable(d, size, at, make([]int, max(1, size/2)+size%2)), withTable(d, size, at, make([]int, 8)))
				}
			}
		}
		for _, none := range noTables() { // all are none, and of one length
			out = append(out, slices.Repeat([][]int{none}, d))
		}
	}
	return out
}

// withTable gives d tables of a size, but for one.
func withTable(d, size, at int, one []int) [][]int {
	out := make([][]int, d)
	for i := range out {
		out[i] = make([]int, size)
	}
	out[at] = one
	return out
}

// TestU3WrongTables: at the least prime, too, where four tables are more than may be, but their size is told first.
func TestU3WrongTables(t *testing.T) {
	for _, p := range []int{3, 17} {
		f := fieldOf(t, p)
		for i, tables := range wrongTables() {
			n, err := sums.Total(f, tables)
			told(t, err, api.ErrSize, "p = %d: Total of wrong tables %d", p, i)
			same(t, n, 0, "p = %d: Total of wrong tables %d", p, i)
			l, err := sums.Round(f, tables)
			told(t, err, api.ErrSize, "p = %d: Round of wrong tables %d", p, i)
			same(t, len(l), 0, "p = %d: Round of wrong tables %d", p, i)
		}
	}
}

func TestU3RoundWithoutVariables(t *testing.T) {
	for _, p := range []int{3, 5, 17} {
		f := fieldOf(t, p)
		for d := 1; d <= api.MaxTables; d++ {
			l, err := sums.Round(f, slices.Repeat([][]int{{1}}, d))
			told(t, err, api.ErrSize, "p = %d: Round of %d over none", p, d)
			same(t, len(l), 0, "p = %d: Round of %d over none", p, d)
		}
	}
}

// TestU3NotBelowThePrime: as many tables as the prime, or more, have a Total, but no Round.
func TestU3NotBelowThePrime(t *testing.T) {
	r := rand.New(rand.NewSource(8))
	for _, p := range []int{3, 5, 7} {
		f := fieldOf(t, p)
		for d := 1; d <= api.MaxTables; d++ {
			tables := someTables(r, p, d, 2)
			n, err := sums.Total(f, tables)
			told(t, err, api.OK, "p = %d: Total of %d", p, d)
			same(t, n, totalBy(p, tables), "p = %d: Total of %d", p, d)
			l, err := sums.Round(f, tables)
			if d < p {
				told(t, err, api.OK, "p = %d: Round of %d", p, d)
				same(t, len(l), d+1, "p = %d: Round of %d", p, d)
				continue
			}
			told(t, err, api.ErrRange, "p = %d: Round of %d", p, d)
			same(t, len(l), 0, "p = %d: Round of %d", p, d)
		}
	}
}

// TestTableOfTheDocument: the third number of the first Round, all of the second Round and the second of Finals are not
// what stands in the chapter's table (14; 9 5 11; 15), but what U2 to U4 say: at 2 the halves of the tables are 5 6 and
// 16 3, whose products have the sum 13.
func TestTableOfTheDocument(t *testing.T) {
	f := fieldOf(t, 17)
	tables := [][]int{{1, 2, 3, 4}, {1, 1, 0, 2}}
	total, err := sums.Total(f, tables)
	same(t, fmt.Sprint(total, err), "11 <nil>", "Total")
	round, err := sums.Round(f, tables)
	same(t, fmt.Sprint(round, err), "[3 8 13] <nil>", "Round")
	is, err := sums.Extend(f, tables[0], []int{2, 3})
	same(t, fmt.Sprint(is, err), "8 <nil>", "Extend")
	s, err := sums.Make(f, tables, []int{2, 3})
	same(t, fmt.Sprint(s, err), "{[[3 8 13] [12 1 15]] [8 11]} <nil>", "Make")
	same(t, sums.Check(f, 11, 2, s, []int{2, 3}), true, "Check")
	off := api.Summed{Rounds: [][]int{{3, 8, 14}, {9, 5, 11}}, Finals: []int{8, 15}}
	same(t, sums.Check(f, 11, 2, off, []int{2, 3}), false, "Check of the chapter's table")
}
