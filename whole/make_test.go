package whole_test

import (
	"math"
	"slices"
	"testing"

	"attest/api"
	"attest/rules"
	"attest/whole"
)

// vouched gives a voucher, which there is.
func vouched(t *testing.T, r run, asked int) api.Voucher {
	t.Helper()
	v, outcome, err := whole.Make(fieldOf(t, r.p), r.c, r.n, asked)
	if err != nil || outcome != r.outcome {
		t.Fatalf("Make of %v with %d asked: outcome %d, error %v", r, asked, outcome, err)
	}
	return v
}

func TestW5ByItsWords(t *testing.T) {
	t.Parallel()
	for i, r := range runs(t) {
		for _, asked := range []int{1, 2, 7, 64} {
			if asked > 1 && i > 8 {
				continue
			}
			same(t, vouched(t, r, asked), proverOf(t, r, asked).make(t).v, "the voucher of %v with %d asked", r, asked)
		}
	}
}

// scattered is code whose cells are many for its four rows, so that over a small field there often is no Product.
func scattered(p, to, more int) run {
	return run{p, listed(0, api.OpSet, 4, to, 0, api.OpSet, 5, to*more, 0, api.OpSet, 6, to+more, 0, api.OpHalt, 4, 0, 0), 4, to}
}

func TestW5PairsThatAreDrawnInVain(t *testing.T) {
	t.Parallel()
	met := map[int]int{}
	for to := range 97 {
		for more := range 3 {
			r := scattered(97, to, more)
			got := vouched(t, r, 1)
			same(t, got, proverOf(t, r, 1).make(t).v, "the voucher of %v that comes to %d", r, to)
			same(t, whole.Check(fieldOf(t, 97), r.c, to, 4, 1, got), true, "Check of %v that comes to %d", r, to)
			met[got.Tries]++
		}
	}
	if met[0] < 200 || met[1] < 10 || met[2] == 0 {
		t.Errorf("so many pairs were drawn in vain: %v", met)
	}
}

func TestW5WhatIsShown(t *testing.T) {
	for _, r := range runs(t)[:9] {
		const asked = 5
		v := vouched(t, r, asked)
		m := proverOf(t, r, asked).make(t)
		rounds := 0
		for k := 4 * r.n; k > 4; k /= 2 {
			rounds++
		}
		same(t, []int{len(v.Main), len(v.Aux), len(v.Fold.Roots), len(v.Fold.Opens)}, []int{4, 4, rounds, rounds}, "how much is told of %v", r)
		var places []int
		for at := range 8 * r.n {
			for _, q := range m.drawn {
				for _, more := range []int{0, 4 * r.n, 8, 4*r.n + 8} {
					if (q+more)%(8*r.n) == at && !slices.Contains(places, at) {
						places = append(places, at)
					}
				}
			}
		}
		same(t, v.Rows.Places, places, "the places of Rows of %v", r)
		same(t, v.Last.Places, places, "the places of Last of %v", r)
		for i := range places {
			same(t, []int{len(v.Rows.Rows[i]), len(v.Last.Rows[i])}, []int{rules.Width(r.c), 1}, "how wide the rows of %v are", r)
		}
	}
}

func TestW5Errors(t *testing.T) {
	blank, stuck, loop := listed(0, api.OpHalt, 0, 0, 0), listed(0, 14, 0, 0, 0), listed(0, api.OpJump, 0, 0, 0)
	far := listed(1, api.OpSet, 50, 6, 0, api.OpHalt, 50, 0, 0)
	for _, p := range []int{97, great} {
		for _, asked := range []int{0, -1, 65, 66, math.MinInt, math.MaxInt} {
			for _, c := range []api.Code{five(), blank, stuck, loop, far, {}} {
				isNoVoucher(t, p, c, 4, asked, api.ErrSize)
				isNoVoucher(t, p, c, 3, asked, api.ErrSize)
			}
		}
		for _, asked := range []int{1, 64} {
			isNoVoucher(t, p, blank, 4, asked, api.ErrBlank)
			isNoVoucher(t, p, stuck, 4, asked, api.ErrStuck)
			isNoVoucher(t, p, loop, 4, asked, api.ErrLong)
			isNoVoucher(t, p, far, 4, asked, api.ErrFull)
			isNoVoucher(t, p, quotient(), 2, asked, api.ErrSize)
			for _, size := range []int{-1, math.MinInt, api.MaxSize + 1, math.MaxInt} {
				isNoVoucher(t, p, api.Code{Size: size, List: five().List}, 4, asked, api.ErrSize)
			}
			for _, c := range []api.Code{blank, stuck, loop, far} {
				// That the rows do not fit comes first.
				isNoVoucher(t, p, c, 5, asked, api.ErrSize)
				isNoVoucher(t, p, c, 2, asked, api.ErrSize)
				isNoVoucher(t, 101, c, 4, asked, api.ErrSize)
				isNoVoucher(t, 97, c, 8, asked, api.ErrSize)
				isNoVoucher(t, 257, c, 32, asked, api.ErrSize)
			}
		}
	}
	four := listed(4, api.OpSet, 0, 1, 0, api.OpSet, 1, 1, 0, api.OpSet, 2, 1, 0, api.OpSet, 3, 1, 0, api.OpHalt, 0, 0, 0)
	isNoVoucher(t, great, four, 4, 1, api.ErrLong)
	vouched(t, run{great, four, 8, 1}, 1)
	vouched(t, run{great, api.Code{Size: api.MaxSize, List: five().List}, 4, 5}, 1)
}

// TestW5EachNumberIsInTheLabel: what is vouched for is Taken by the chain, so that another claim draws other numbers.
func TestW5EachNumberIsInTheLabel(t *testing.T) {
	r := run{great, five(), 4, 5}
	v := vouched(t, r, 3)
	other := func(r run, asked int, what string) {
		t.Helper()
		w := vouched(t, r, asked)
		if slices.Equal(w.Aux, v.Aux) {
			t.Errorf("with another %s the same is drawn", what)
		}
		same(t, w.Main, v.Main, "Main with another %s", what)
	}
	other(r, 4, "asked")
	for _, change := range []func(*api.Ins){
		func(in *api.Ins) { in.C = 1 },
		func(in *api.Ins) { in.B = 1 },
	} {
		c := five()
		change(&c.List[1]) // OpHalt asks neither B nor C
		other(run{great, c, 4, 5}, 3, "instruction")
	}
	c := five()
	c.List[0].C = -1
	other(run{great, c, 4, 5}, 3, "first instruction")
	// As elements these are the same.
	c = five()
	c.List[0].A, c.List[0].B, c.List[0].C, c.List[1].B = great, 5-great, 2*great, -great
	same(t, vouched(t, run{great, c, 4, 5}, 3), v, "the voucher of other numbers for the same elements")
}

// TestW5EveryOutcome: a voucher is one of its own outcome, and of no other.
func TestW5EveryOutcome(t *testing.T) {
	t.Parallel()
	f := fieldOf(t, 97)
	for to := range 97 {
		c := listed(1, api.OpSet, 0, to-97, 0, api.OpHalt, 0, 0, 0)
		v, outcome, err := whole.Make(f, c, 4, 2)
		same(t, []any{outcome, err}, []any{to, nil}, "the outcome of what comes to %d", to)
		for claimed := range 97 {
			same(t, whole.Check(f, c, claimed, 4, 2, v), claimed == to, "Check that what comes to %d comes to %d", to, claimed)
		}
	}
}
