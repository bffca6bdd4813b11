package rules_test

import (
	"math"
	"math/rand"
	"slices"
	"testing"

	"attest/api"
	"attest/field"
	"attest/rules"
)

// factors are those of a row, from at and is on.
func factors(p int, row []int, at, is, x, y int) []int {
	var out []int
	for j := range 4 {
		number := element(element(row[at+j], p)+element(y, p)*element(row[is+j], p), p)
		out = append(out, element(element(x, p)-number, p))
	}
	return out
}

// products is what Product answers, by its words.
func products(p int, rows [][]int, x, y int) ([]int, bool) {
	here := 1
	var out []int
	for _, row := range rows {
		out = append(out, here)
		above, below := factors(p, row, 3, 7, x, y), factors(p, row, 12, 16, x, y)
		if slices.Contains(above, 0) || slices.Contains(below, 0) {
			return nil, false
		}
		for j := range 4 {
			here = here * above[j] % p * inverse(below[j], p) % p
		}
	}
	return out, len(out) > 0
}

// isProduct sees that Product answers what it should, and tells whether there is one.
func isProduct(t *testing.T, f *field.Field, rows [][]int, x, y int) bool {
	t.Helper()
	want, wantOK := products(f.P(), rows, x, y)
	got, ok := rules.Product(f, rows, x, y)
	if ok != wantOK || !slices.Equal(got, want) {
		t.Errorf("Product over %d with %d and %d of %v: got %v %v, want %v %v", f.P(), x, y, rows, got, ok, want, wantOK)
	}
	return ok
}

func TestR5Tables(t *testing.T) {
	r := rand.New(rand.NewSource(513))
	for _, p := range primes[4:] {
		f := fieldOf(t, p)
		rows, _ := table(t, p, everyOp(), 24)
		there := 0
		for range 300 {
			x, y := r.Intn(p), r.Intn(p)
			if isProduct(t, f, rows, x, y) {
				there++
				z, _ := rules.Product(f, rows, x, y)
				above, below := factors(p, rows[23], 3, 7, x, y), factors(p, rows[23], 12, 16, x, y)
				end := z[23]
				for j := range 4 {
					end = f.Mul(end, f.Div(above[j], below[j]))
				}
				same(t, end, 1, "what comes behind the last row of rows that are alike")
			}
		}
		if there < 30 || p < 1000 && there == 300 {
			t.Errorf("over %d there is a product %d times of 300", p, there)
		}
	}
}

func TestR5ArbitraryRows(t *testing.T) {
	r := rand.New(rand.NewSource(514))
	met := map[bool]int{}
	for range 20000 {
		p := primes[r.Intn(len(primes))]
		rows := make([][]int, r.Intn(4))
		for i := range rows {
			rows[i] = make([]int, 20+r.Intn(3))
			for j := range rows[i] {
				rows[i][j] = int(r.Uint64())
				if r.Intn(3) == 0 {
					rows[i][j] = r.Intn(3)
				}
			}
		}
		met[isProduct(t, fieldOf(t, p), rows, int(r.Uint64()), r.Intn(9)-4)]++
	}
	if met[true] < 1000 || met[false] < 1000 {
		t.Errorf("a product, or none, too seldom: %v", met)
	}
}

func TestR5NoProduct(t *testing.T) {
	const p = 97
	f := fieldOf(t, p)
	no := func(rows [][]int, x, y int, what string) {
		t.Helper()
		if z, ok := rules.Product(f, rows, x, y); ok || len(z) > 0 {
			t.Errorf("Product of %s: got %v %v", what, z, ok)
		}
	}
	no(nil, 3, 5, "no rows")
	no([][]int{}, 3, 5, "an empty list of rows")
	rows := make([][]int, 3)
	for i := range rows {
		rows[i] = make([]int, 20)
	}
	if z, ok := rules.Product(f, rows, 3, 5); !ok || !slices.Equal(z, []int{1, 1, 1}) {
		t.Errorf("Product of zeros: got %v %v", z, ok)
	}
	no(rows, 0, 5, "zeros with 0")
	no(rows, 97, 5, "zeros with 97")
	for i := range rows {
		for _, wide := range []int{0, 1, 12, 19} {
			short := copied(rows)
			short[i] = short[i][:wide]
			no(short, 3, 5, "rows one of which is too short")
		}
		for j := range 20 {
			if j < 3 || j == 11 {
				continue
			}
			// One factor alone is 0: that of the pair 13 0, or of the pair 0 20, with 13 and 20 times 20.
			changed := copied(rows)
			changed[i][j] = 13
			x, y := 13, 20
			if j >= 7 && j < 11 || j >= 16 {
				x = 13 * 20
			}
			no(changed, x, y, "rows one of whose factors is 0")
			changed[i][j] = 14
			if _, ok := rules.Product(f, changed, x, y); !ok {
				t.Errorf("there is no product, though no factor is 0")
			}
		}
	}
}

// cells gives pairs.
func cells(numbers ...int) []api.Cell {
	var out []api.Cell
	for i := 0; i < len(numbers); i += 2 {
		out = append(out, api.Cell{At: numbers[i], Is: numbers[i+1]})
	}
	return out
}

// isSame is what Same answers, by its words.
func isSame(p int, a, b []api.Cell, x, y int) bool {
	product := func(l []api.Cell) int {
		out := 1
		for _, c := range l {
			out = out * element(element(x, p)-element(c.At, p)-element(y, p)*element(c.Is, p), p) % p
		}
		return out
	}
	return product(a) == product(b)
}

func TestR6Same(t *testing.T) {
	f := fieldOf(t, 97)
	for x := range 97 {
		for y := range 97 {
			for _, l := range [][2][]api.Cell{
				{cells(1, 2, 3, 4), cells(3, 4, 1, 2)},
				{cells(1, 2, 3, 4), cells(1, 4, 3, 2)},
				{cells(1, 2, 3, 4), cells(1, 2, 3, 5)},
				{cells(1, 2, 3, 4), cells(1, 2)},
				{cells(1, 2, 1, 2), cells(1, 2)},
				{cells(1, 2), nil},
				{nil, nil},
				{cells(1, 2), cells(-96, 99)},
			} {
				want := isSame(97, l[0], l[1], x, y)
				same(t, rules.Same(f, l[0], l[1], x, y), want, "Same of %v with %d and %d", l, x, y)
				same(t, rules.Same(f, l[1], l[0], x-97, y+97*4), want, "Same of %v the other way, with %d and %d", l, x, y)
			}
		}
	}
	same(t, rules.Same(f, nil, []api.Cell{}, 3, 5), true, "Same of nothing")
	same(t, rules.Same(f, nil, cells(2, 0), 3, 5), true, "Same of nothing and of a factor that is 1")
	same(t, rules.Same(f, nil, cells(2, 1), 3, 5), false, "Same of nothing and of a factor that is not 1")
	same(t, rules.Same(f, cells(math.MaxInt, math.MinInt), cells(f.Of(math.MaxInt), f.Of(math.MinInt)), math.MinInt, math.MaxInt), true, "Same of great numbers")
}

// drawnCells gives some pairs over a small field.
func drawnCells(r *rand.Rand, p, n int) []api.Cell {
	var out []api.Cell
	for range n {
		out = append(out, api.Cell{At: r.Intn(p), Is: r.Intn(p)})
	}
	return out
}

// numbersOf gives At + y Is of all pairs, sorted.
func numbersOf(p int, l []api.Cell, y int) []int {
	var out []int
	for _, c := range l {
		out = append(out, (c.At+y*c.Is)%p)
	}
	slices.Sort(out)
	return out
}

func TestR6FewNumbersHideWhatIsUnlike(t *testing.T) {
	r := rand.New(rand.NewSource(613))
	unlike := 0
	for range 3000 {
		p := primes[1+r.Intn(4)]
		f, n := fieldOf(t, p), 1+r.Intn(5)
		a, b := drawnCells(r, p, n), drawnCells(r, p, n)
		if r.Intn(3) == 0 {
			b = slices.Clone(a)
			r.Shuffle(n, func(i, j int) { b[i], b[j] = b[j], b[i] })
			b[0].Is = r.Intn(p)
		}
		y, hides := r.Intn(p), 0
		for x := range p {
			got := rules.Same(f, a, b, x, y)
			if got {
				hides++
			}
			same(t, got, isSame(p, a, b, x, y), "Same over %d of %v and %v with %d and %d", p, a, b, x, y)
		}
		if slices.Equal(numbersOf(p, a, y), numbersOf(p, b, y)) {
			same(t, hides, p, "how many make them the same that are")
			continue
		}
		unlike++
		if hides >= n {
			t.Errorf("over %d %v and %v are Same with %d and %d numbers", p, a, b, y, hides)
		}
	}
	if unlike < 500 {
		t.Errorf("only %d lists are unlike", unlike)
	}
}

func TestR6TwoUnlikePairs(t *testing.T) {
	const p = 5
	f := fieldOf(t, p)
	for n := range p * p * p * p {
		a, b := cells(n%p, n/p%p), cells(n/p/p%p, n/p/p/p)
		count := 0
		for y := range p {
			if rules.Same(f, a, b, 0, y) {
				count++
			}
		}
		if slices.Equal(a, b) && count != p || !slices.Equal(a, b) && count > 1 {
			t.Errorf("%v and %v have the same number with %d numbers y", a, b, count)
		}
	}
}
