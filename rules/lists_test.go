package rules_test

import (
	"math"
	"math/rand"
	"slices"
	"testing"

	"attest/api"
	"attest/rules"
)

func TestP2NothingIsWrittenOrKept(t *testing.T) {
	const p = 97
	f, c := fieldOf(t, p), everyOp()
	list := append(slices.Clone(c.List), api.Ins{Op: 77})
	kept := slices.Clone(list)
	c.List = list[: len(list)-1 : len(list)] // something stands behind it
	rows, outcome := table(t, p, c, 24)
	long := make([][]int, len(rows), len(rows)+1)
	for i := range rows {
		long[i] = append(slices.Clone(rows[i]), 55)[:len(rows[i])]
		long[i][i%len(rows[i])] -= 97
	}
	was := copied(long)
	want := []any{rules.Broken(f, c, outcome, long), rules.Alike(f, long)}
	z, ok := rules.Product(f, long, 40, 31)
	a, b := cells(1, 2, 3-97, 4), cells(3, 4, 1, 2)
	same(t, rules.Same(f, a, b, 40, 31), true, "Same")
	same(t, list, kept, "the instructions behind all calls")
	same(t, []any{a, b}, []any{cells(1, 2, -94, 4), cells(3, 4, 1, 2)}, "the pairs behind Same")
	same(t, long, was, "the rows behind all calls")
	for i, row := range long {
		same(t, row[:len(row)+1][len(row)], 55, "what stands behind row %d", i)
	}
	same(t, long[:len(rows)+1][len(rows)] == nil, true, "what stands behind the rows")
	// The answers do not hang on what is done with the ones ahead.
	for i := range z {
		z[i] = 0
	}
	again, okAgain := rules.Product(f, long, 40, 31)
	wantZ, _ := products(p, long, 40, 31)
	same(t, []any{again, ok, okAgain}, []any{wantZ, true, true}, "Product once more")
	same(t, []any{rules.Broken(f, c, outcome, long), rules.Alike(f, long)}, want, "Broken and Alike once more")
}

func TestP2RowsShareNothing(t *testing.T) {
	const p = 97
	c := five()
	rows, _ := table(t, p, c, 8)
	first := copied(rows)
	for i, row := range rows {
		row = row[:cap(row)]
		for j := range row {
			row[j] = -1
		}
		same(t, rows[i+1:], first[i+1:], "the rows behind row %d, which was written into", i)
	}
	again, _ := table(t, p, c, 8)
	same(t, again, first, "Table once more")
}

func TestP1AnyNumbers(t *testing.T) {
	r := rand.New(rand.NewSource(113))
	odd := []int{0, 1, -1, 2, math.MaxInt, math.MinInt, math.MaxInt - 1, 1 << 32, -1 << 32, 97, 20, 22}
	draw := func() int { return odd[r.Intn(len(odd))] }
	for range 20000 {
		f := fieldOf(t, primes[r.Intn(len(primes))])
		c := api.Code{Size: draw()}
		for range r.Intn(5) {
			c.List = append(c.List, api.Ins{Op: []int{draw(), r.Intn(14)}[r.Intn(2)], A: draw(), B: draw(), C: draw()})
		}
		rows := make([][]int, r.Intn(4))
		for i := range rows {
			rows[i] = make([]int, rules.Width(c))
			if r.Intn(9) == 0 {
				rows[i] = make([]int, r.Intn(26))
			}
			for j := range rows[i] {
				rows[i][j] = draw()
			}
		}
		rules.Table(f, c, draw())
		rules.Alike(f, rows)
		rules.Product(f, rows, draw(), draw())
		rules.Same(f, cells(draw(), draw()), cells(draw(), draw(), draw(), draw()), draw(), draw())
		outcome := draw()
		got := rules.Broken(f, c, outcome, rows)
		wide := len(c.List) > 0 && len(rows) > 0
		for _, row := range rows {
			wide = wide && len(row) == rules.Width(c)
		}
		want := api.Broken{Rule: -2}
		if wide {
			want = firstBroken(f.P(), c, outcome, rows)
		}
		same(t, got, want, "Broken of %v over %d with %d of %v", c, f.P(), outcome, rows)
	}
}
