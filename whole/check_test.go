package whole_test

import (
	"math"
	"math/rand"
	"slices"
	"testing"

	"attest/api"
	"attest/field"
	"attest/poly"
	"attest/whole"
)

// part is a number of a voucher.
type part struct {
	name    string
	is      *int
	element bool // any number that is the same element may stand for it
}

// openingParts are the numbers of an Opening.
func openingParts(name string, o *api.Opening) (out []part) {
	out = append(out, listParts(name+".Places", o.Places, false)...)
	for _, row := range o.Rows {
		out = append(out, listParts(name+".Rows", row, true)...)
	}
	for _, node := range o.Nodes {
		out = append(out, listParts(name+".Nodes", node, true)...)
	}
	return out
}

func listParts(name string, l []int, element bool) (out []part) {
	for i := range l {
		out = append(out, part{name, &l[i], element})
	}
	return out
}

// parts are all numbers of a voucher.
func parts(v *api.Voucher) (out []part) {
	out = append(out, listParts("Main", v.Main, true)...)
	out = append(out, listParts("Aux", v.Aux, true)...)
	out = append(out, part{"Tries", &v.Tries, false})
	for _, root := range v.Fold.Roots {
		out = append(out, listParts("Fold.Roots", root, true)...)
	}
	out = append(out, listParts("Fold.Last", v.Fold.Last, true)...)
	for i := range v.Fold.Opens {
		out = append(out, openingParts("Fold.Opens", &v.Fold.Opens[i])...)
	}
	out = append(out, openingParts("Rows", &v.Rows)...)
	return append(out, openingParts("Last", &v.Last)...)
}

// resized is a list of a voucher that was made shorter or longer, by what makes each of its lists so.
type resized func(v *api.Voucher)

// resizings are all ways to make one list of a voucher one shorter, one longer, or empty.
func resizings(v api.Voucher) map[string][]resized {
	out := map[string][]resized{}
	openings := func(name string, get func(*api.Voucher) *api.Opening) {
		o := get(&v)
		resizing(out, name+".Places", func(v *api.Voucher) *[]int { return &get(v).Places })
		resizing(out, name+".Rows", func(v *api.Voucher) *[][]int { return &get(v).Rows })
		resizing(out, name+".Nodes", func(v *api.Voucher) *[][]int { return &get(v).Nodes })
		for i := range o.Rows {
			resizing(out, name+".Rows[]", func(v *api.Voucher) *[]int { return &get(v).Rows[i] })
		}
		for i := range o.Nodes {
			resizing(out, name+".Nodes[]", func(v *api.Voucher) *[]int { return &get(v).Nodes[i] })
		}
	}
	resizing(out, "Main", func(v *api.Voucher) *[]int { return &v.Main })
	resizing(out, "Aux", func(v *api.Voucher) *[]int { return &v.Aux })
	resizing(out, "Fold.Roots", func(v *api.Voucher) *[][]int { return &v.Fold.Roots })
	resizing(out, "Fold.Last", func(v *api.Voucher) *[]int { return &v.Fold.Last })
	resizing(out, "Fold.Opens", func(v *api.Voucher) *[]api.Opening { return &v.Fold.Opens })
	for i := range v.Fold.Roots {
		resizing(out, "Fold.Roots[]", func(v *api.Voucher) *[]int { return &v.Fold.Roots[i] })
	}
	for i := range v.Fold.Opens {
		openings("Fold.Opens[]", func(v *api.Voucher) *api.Opening { return &v.Fold.Opens[i] })
	}
	openings("Rows", func(v *api.Voucher) *api.Opening { return &v.Rows })
	openings("Last", func(v *api.Voucher) *api.Opening { return &v.Last })
	return out
}

func resizing[T any](out map[string][]resized, name string, get func(*api.Voucher) *[]T) {
	out[name] = append(out[name],
		func(v *api.Voucher) { l := get(v); *l = (*l)[:max(0, len(*l)-1)] },
		func(v *api.Voucher) { l, none := get(v), *new(T); *l = append(*l, none) },
		func(v *api.Voucher) {
			l := get(v)
			if len(*l) > 0 {
				*l = append(*l, (*l)[len(*l)-1])
			}
		},
		func(v *api.Voucher) { l := get(v); *l = nil })
}

func copiedOpening(o api.Opening) api.Opening {
	return api.Opening{Places: slices.Clone(o.Places), Rows: copiedRows(o.Rows), Nodes: copiedRows(o.Nodes)}
}

func copied(v api.Voucher) (out api.Voucher) {
	out.Main, out.Aux, out.Tries = slices.Clone(v.Main), slices.Clone(v.Aux), v.Tries
	out.Fold.Roots, out.Fold.Last = copiedRows(v.Fold.Roots), slices.Clone(v.Fold.Last)
	for _, o := range v.Fold.Opens {
		out.Fold.Opens = append(out.Fold.Opens, copiedOpening(o))
	}
	out.Rows, out.Last = copiedOpening(v.Rows), copiedOpening(v.Last)
	return out
}

func TestW6EachNumberChanged(t *testing.T) {
	t.Parallel()
	for _, r := range []run{{great, five(), 4, 5}, {great, quotient(), 8, 805306366}, {97, quotient(), 4, 17}} {
		const asked = 3
		f, v := fieldOf(t, r.p), vouched(t, r, asked)
		takes := func(v api.Voucher) bool { return whole.Check(f, r.c, r.outcome, r.n, asked, v) }
		same(t, takes(v), true, "Check of %v", r)
		all := parts(&v)
		for i, is := range all {
			for _, more := range []int{1, r.p * (1 - 2*(i%2))} {
				other := copied(v)
				*parts(&other)[i].is += more
				same(t, takes(other), more%r.p == 0 && is.element, "Check of %v with %d added to number %d, of %s", r, more, i, is.name)
			}
		}
		if len(all) < 300 {
			t.Errorf("the voucher of %v has only %d numbers", r, len(all))
		}
	}
}

func TestW6EachListChanged(t *testing.T) {
	for _, r := range []run{{great, five(), 4, 5}, {great, quotient(), 8, 805306366}} {
		const asked = 3
		f, v := fieldOf(t, r.p), vouched(t, r, asked)
		for name, changes := range resizings(v) {
			for i, change := range changes {
				other := copied(v)
				change(&other)
				isSame := slices.Equal(whole.Bytes(other), whole.Bytes(v)) // where an empty list was made empty
				same(t, whole.Check(f, r.c, r.outcome, r.n, asked, other), isSame, "Check of %v with %s made longer or shorter (%d)", r, name, i)
			}
		}
	}
}

func TestW6AnotherClaim(t *testing.T) {
	r := run{great, quotient(), 4, 805306366}
	const asked = 5
	f, v := fieldOf(t, great), vouched(t, r, asked)
	is := func(want bool, c api.Code, outcome, n, asked int, what string, args ...any) {
		t.Helper()
		same(t, whole.Check(f, c, outcome, n, asked, v), want, what, args...)
	}
	is(true, r.c, r.outcome, 4, asked, "Check")
	for _, more := range []int{1, -1, 1 << 40} {
		is(false, r.c, r.outcome+more, 4, asked, "Check of another outcome")
		is(false, api.Code{Size: r.c.Size + more, List: r.c.List}, r.outcome, 4, asked, "Check of another Size")
	}
	for _, more := range []int{great, -great, 7 * great} {
		is(true, r.c, r.outcome+more, 4, asked, "Check of the same outcome")
		is(true, api.Code{Size: r.c.Size + more, List: r.c.List}, r.outcome, 4, asked, "Check of the same Size")
	}
	for i := range r.c.List {
		for j := range 4 {
			for _, more := range []int{1, -1, great, -great} {
				c := quotient()
				in := &c.List[i]
				*[]*int{&in.Op, &in.A, &in.B, &in.C}[j] += more
				is(j > 0 && more%great == 0, c, r.outcome, 4, asked, "Check with %d added to number %d of instruction %d", more, j, i)
			}
		}
	}
	is(false, api.Code{Size: 3, List: r.c.List[:3]}, r.outcome, 4, asked, "Check of fewer instructions")
	is(false, api.Code{Size: 3, List: append(quotient().List, api.Ins{})}, r.outcome, 4, asked, "Check of more instructions")
	is(false, api.Code{Size: 3}, r.outcome, 4, asked, "Check of no instruction")
	for _, n := range []int{0, 1, 2, 3, 5, 8, 16, 512, 1024, -4, math.MinInt, math.MaxInt} {
		is(false, r.c, r.outcome, n, asked, "Check with %d rows", n)
	}
	for _, n := range []int{0, 1, 4, 6, 10, 64, 65, -5, math.MinInt, math.MaxInt} {
		is(false, r.c, r.outcome, 4, n, "Check with %d asked", n)
	}
	for _, p := range []int{3, 97, 193, 12289, 2147483647} {
		same(t, whole.Check(fieldOf(t, p), r.c, r.outcome, 4, asked, v), false, "Check over %d", p)
	}
}

// TestW6Tries: which pairs are drawn in vain is for who makes the voucher to tell; no more than so many are.
func TestW6Tries(t *testing.T) {
	for _, skipped := range []int{0, 1, 2, 10, 62, 63, 64, 65, 200} {
		w := proverOf(t, run{great, quotient(), 4, 805306366}, 2)
		w.skipped = skipped
		v := w.make(t).v
		same(t, v.Tries, skipped, "Tries")
		same(t, w.checks(v), skipped <= 63, "Check with %d pairs drawn in vain", skipped)
		for _, tries := range []int{-1, -64, skipped + 1, skipped - 1, math.MinInt, math.MaxInt, math.MinInt + skipped} {
			v.Tries = tries
			same(t, w.checks(v), false, "Check with %d pairs drawn in vain, said to be %d", skipped, tries)
		}
	}
}

// halting is code that ends at once, and its rows, of however many instructions and rows: all their pairs are 0 and 0.
func halting(p, instructions, n int) (run, [][]int) {
	rows := zeros(n, 20+instructions)
	for _, row := range rows {
		row[0], row[1], row[20] = 1, 2, 1
	}
	return run{p, codeOf(instructions), n, 0}, rows
}

// TestW6NoPairIsDrawn: whoever need not draw x and y could take 0 and 0, with which all products of such rows are 0.
func TestW6NoPairIsDrawn(t *testing.T) {
	r, rows := halting(great, 2, 4)
	same(t, r.table(t), rows, "Table of code that ends at once")
	for _, tries := range []int{-1, -2, -64, math.MinInt} {
		w := proverOf(t, r, 2)
		w.skipped = tries
		v := w.make(t).v
		same(t, v.Tries, tries, "Tries")
		same(t, w.checks(v), false, "Check with %d pairs drawn in vain", tries)
	}
	same(t, proverOf(t, r, 2).checks(vouched(t, r, 2)), true, "Check of code that ends at once")
}

// TestW6WhatDoesNotFit: but for how many rows or instructions there are, these vouchers are as they should be.
func TestW6WhatDoesNotFit(t *testing.T) {
	byWords := func(f *field.Field, c api.Code, outcome int, rows [][]int, z []int, x, y, a int) ([]int, error) {
		return composedBy(f, c, outcome, rows, z, x, y, a), nil
	}
	for _, k := range []struct {
		instructions, n int
		fits            bool
	}{{2, 4, true}, {2, 2, false}, {64, 4, true}, {65, 4, false}, {66, 4, false}, {1, 2, false}, {1, 8, true}} {
		r, rows := halting(great, k.instructions, k.n)
		w := proverOfRows(t, r, 2, rows)
		w.compose = byWords
		same(t, w.checks(w.make(t).v), k.fits, "Check of %v", r)
	}
}

// honest tells whether a word is, wherever it was looked at, what it should be.
func (m made) honest(is []int) bool {
	half := len(is) / 2
	return !slices.ContainsFunc(m.drawn, func(q int) bool { return is[q] != m.word[q] || is[q+half] != m.word[q+half] })
}

// TestW6AnotherWordIsFolded: what is folded is of low degree, but differs from the word at some points. It is taken just where
// no such point is looked at.
func TestW6AnotherWordIsFolded(t *testing.T) {
	t.Parallel()
	rnd := rand.New(rand.NewSource(614))
	for _, r := range []run{{97, five(), 4, 5}, {great, quotient(), 8, 805306366}} {
		met := map[bool]int{}
		half := 4 * r.n
		for round := range 144 {
			w := proverOf(t, r, 1+round%3)
			d := domainOf(t, r.p, 2*half, w.f.Generator())
			kept := pointsKept(rnd, round, d.Points())
			var folded []int
			w.word = func(word []int) []int {
				for i, is := range d.Values(poly.Mul(w.f, poly.Vanish(w.f, kept), []int{1 + rnd.Intn(r.p-1)})) {
					word[i] = w.f.Add(word[i], is)
				}
				folded = word
				return word
			}
			m := w.make(t)
			want := m.honest(folded)
			met[want]++
			same(t, w.checks(m.v), want, "Check of %v where another word is folded, looked at at %v", r, m.drawn)
		}
		if met[true] < 5 || met[false] < 100 {
			t.Errorf("of %v a word that is seen to be another one, or not, was met too seldom: %v", r, met)
		}
	}
}

// pointsKept are less than half of the points: at some places and at those that are half of all further; or only at one of these.
func pointsKept(r *rand.Rand, round int, points []int) []int {
	half := len(points) / 2
	switch round / 3 % 4 {
	case 0:
		return slices.Delete(slices.Clone(points[:half]), r.Intn(half), half)
	case 1:
		at := r.Intn(half)
		return slices.Delete(slices.Clone(points[:half]), at, at+1)
	case 2:
		at := r.Intn(half)
		return slices.Delete(slices.Clone(points[half:]), at, at+1)
	}
	var out []int
	for _, at := range r.Perm(half)[:half/2-1] {
		out = append(out, points[at], points[at+half])
	}
	return out
}

// low gives a word of low degree that is as much like another one as the low places of that are.
func low(t *testing.T, w prover, word []int) []int {
	t.Helper()
	d := domainOf(t, w.p, 8*w.n, w.f.Generator())
	a, err := d.Coefficients(word)
	if err != nil {
		t.Fatal(err)
	}
	return d.Values(a[:min(len(a), 4*w.n)])
}

// TestW6WhatIsNotSo: rows that break a rule, or another outcome, make no word of low degree; and if another one is folded,
// this is seen.
func TestW6WhatIsNotSo(t *testing.T) {
	t.Parallel()
	for _, r := range []run{{great, five(), 4, 5}, {great, quotient(), 8, 805306366}} {
		refused := func(change func(*prover), what string, args ...any) {
			t.Helper()
			w := proverOf(t, r, 3)
			change(&w)
			var folded []int
			w.word = func(word []int) []int {
				folded = low(t, w, word)
				if slices.Equal(folded, word) {
					t.Errorf("%v "+what+": the word is of low degree", append([]any{r}, args...)...)
				}
				return folded
			}
			m := w.make(t)
			same(t, m.honest(folded) || w.checks(m.v), false, what, args...)
		}
		refused(func(w *prover) {
			w.claimed++
			w.label[3]++
		}, "Check of another outcome")
		for i := range r.n {
			for _, j := range []int{0, 1, 2, 3, 7, 12, 16, 20, 21} {
				refused(func(w *prover) { w.table[i][j]++ }, "Check of rows in which the element %d of row %d is another one", j, i)
			}
		}
	}
}

// TestW6AnotherLabel: the chain begins with what is claimed.
func TestW6AnotherLabel(t *testing.T) {
	r := run{great, quotient(), 4, 805306366}
	w := proverOf(t, r, 3)
	for i := range w.label {
		w := proverOf(t, r, 3)
		w.label[i]++
		same(t, w.checks(w.make(t).v), false, "Check with another number %d in the label", i)
		w = proverOf(t, r, 3)
		w.label[i] -= great
		same(t, w.checks(w.make(t).v), true, "Check with another number %d in the label, which is the same element", i)
	}
	w.label = append(w.label, 0)
	same(t, w.checks(w.make(t).v), false, "Check with a longer label")
	w.label = w.label[:len(w.label)-2]
	same(t, w.checks(w.make(t).v), false, "Check with a shorter label")
}

// wider gives rows with one more element each.
func wider(rows [][]int) [][]int {
	out := copiedRows(rows)
	for i := range out {
		out[i] = append(out[i], 0)
	}
	return out
}

// narrower gives rows with one element less each.
func narrower(rows [][]int) [][]int {
	out := copiedRows(rows)
	for i := range out {
		out[i] = out[i][:len(out[i])-1]
	}
	return out
}

// TestW6RowsOfAnotherWidth: the roots are those of trees with such rows, so that all else is as it should be.
func TestW6RowsOfAnotherWidth(t *testing.T) {
	r := run{great, quotient(), 4, 805306366}
	for _, change := range []func([][]int) [][]int{wider, narrower} {
		w := proverOf(t, r, 3)
		w.main = change
		same(t, w.checks(w.make(t).v), false, "Check with rows of another width")
		w = proverOf(t, r, 3)
		w.aux = change
		same(t, w.checks(w.make(t).v), false, "Check with rows of z of another width")
	}
	w := proverOf(t, r, 3)
	w.main = copiedRows
	w.aux = copiedRows
	same(t, w.checks(w.make(t).v), true, "Check with the same rows")
}

// TestW6OtherRows: the trees have rows, at a place that is looked at, that are not those of which the word was made.
func TestW6OtherRows(t *testing.T) {
	r := run{great, quotient(), 4, 805306366}
	for j := range 24 {
		changed := func(rows [][]int) [][]int {
			out := copiedRows(rows)
			for _, row := range out {
				row[j%len(row)]++
			}
			return out
		}
		w := proverOf(t, r, 3)
		w.main = changed
		same(t, w.checks(w.make(t).v), false, "Check with rows whose element %d is another one", j)
		w = proverOf(t, r, 3)
		w.aux = changed
		same(t, w.checks(w.make(t).v), false, "Check with another z")
	}
}

// TestW6JustThePlaces: rows at more places, or at fewer, are shown by what the trees take.
func TestW6JustThePlaces(t *testing.T) {
	r := run{great, quotient(), 4, 805306366}
	right := proverOf(t, r, 2).make(t).v
	for _, change := range []func([]int) []int{
		func([]int) []int { return nil },
		func([]int) []int { return upTo(32) },
		func(l []int) []int { return l[1:] },
		func(l []int) []int { return l[:len(l)-1] },
		func(l []int) []int {
			for at := range 32 {
				if !slices.Contains(l, at) {
					return append(l, at)
				}
			}
			return l
		},
	} {
		w := proverOf(t, r, 2)
		w.open = change
		v := w.make(t).v
		if slices.Equal(v.Rows.Places, right.Rows.Places) {
			t.Fatalf("the same places are shown")
		}
		same(t, w.checks(v), false, "Check with other places")
		rows, last := copied(right), copied(right)
		rows.Rows, last.Last = v.Rows, v.Last
		same(t, w.checks(rows), false, "Check with other places of Rows")
		same(t, w.checks(last), false, "Check with other places of Last")
	}
	same(t, proverOf(t, r, 2).checks(right), true, "Check with the right places")
}

// TestW6NoPlaces: where Fold is not taken no place is answered; so rows at no place are not enough.
func TestW6NoPlaces(t *testing.T) {
	w := proverOf(t, run{great, quotient(), 4, 805306366}, 2)
	w.open = func([]int) []int { return nil }
	v := w.make(t).v
	same(t, []any{v.Rows.Places, v.Rows.Nodes}, []any{[]int{}, [][]int{v.Main}}, "an Opening of no places")
	for i := range parts(&api.Voucher{Fold: v.Fold}) {
		other := copied(v)
		fold := api.Voucher{Fold: other.Fold}
		*parts(&fold)[i].is++
		same(t, w.checks(other), false, "Check with no places, and another number %d of Fold", i)
	}
	v.Fold = api.Folded{}
	same(t, w.checks(v), false, "Check with no places, and no Fold")
}

// TestW6Exchanged: what is right for one claim is not for another.
func TestW6Exchanged(t *testing.T) {
	r := run{great, quotient(), 4, 805306366}
	w := proverOf(t, r, 3)
	v, other := w.make(t).v, proverOf(t, run{great, five(), 4, 5}, 3).make(t).v
	for i, change := range []func(*api.Voucher){
		func(v *api.Voucher) { v.Main = other.Main },
		func(v *api.Voucher) { v.Aux = other.Aux },
		func(v *api.Voucher) { v.Main, v.Aux = v.Aux, v.Main },
		func(v *api.Voucher) { v.Fold = other.Fold },
		func(v *api.Voucher) { v.Fold.Opens[0], v.Fold.Opens[1] = v.Fold.Opens[1], v.Fold.Opens[0] },
		func(v *api.Voucher) { v.Rows = other.Rows },
		func(v *api.Voucher) { v.Last = other.Last },
		func(v *api.Voucher) { v.Rows, v.Last = v.Last, v.Rows },
		func(v *api.Voucher) { *v = other },
		func(v *api.Voucher) { *v = api.Voucher{} },
	} {
		changed := copied(v)
		change(&changed)
		same(t, w.checks(changed), false, "Check of exchange %d", i)
	}
}

func TestP1AnyVoucher(t *testing.T) {
	t.Parallel()
	r := rand.New(rand.NewSource(114))
	right := vouched(t, run{97, five(), 4, 5}, 2)
	for range 8000 {
		f := fieldOf(t, []int{3, 5, 97, 193, great}[r.Intn(5)])
		v := wildVoucher(r)
		if r.Intn(2) == 0 {
			other := copied(right)
			for range 1 + r.Intn(3) {
				all := parts(&other)
				*all[r.Intn(len(all))].is = anyNumber(r)
			}
			v = other
		}
		c := five()
		if r.Intn(3) == 0 {
			c = api.Code{Size: anyNumber(r)}
			for range r.Intn(3) {
				c.List = append(c.List, api.Ins{Op: anyNumber(r), A: anyNumber(r), B: anyNumber(r), C: anyNumber(r)})
			}
		}
		n, asked := []int{4, 8, anyNumber(r)}[r.Intn(3)], []int{1, 2, anyNumber(r)}[r.Intn(3)]
		whole.Check(f, c, anyNumber(r), n, asked, v)
	}
}

// wildVoucher is quite arbitrary.
func wildVoucher(r *rand.Rand) (v api.Voucher) {
	lists := func() (out [][]int) {
		for range r.Intn(4) {
			out = append(out, numbers(r, r.Intn(6)))
		}
		return out
	}
	opening := func() api.Opening { return api.Opening{Places: numbers(r, r.Intn(5)), Rows: lists(), Nodes: lists()} }
	v.Main, v.Aux, v.Tries = numbers(r, r.Intn(6)), numbers(r, r.Intn(6)), []int{0, 1, anyNumber(r)}[r.Intn(3)]
	v.Fold.Roots, v.Fold.Last = lists(), numbers(r, r.Intn(6))
	for range r.Intn(4) {
		v.Fold.Opens = append(v.Fold.Opens, opening())
	}
	v.Rows, v.Last = opening(), opening()
	return v
}
