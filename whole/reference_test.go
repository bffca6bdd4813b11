package whole_test

import (
	"slices"
	"testing"

	"attest/api"
	"attest/chain"
	"attest/field"
	"attest/fold"
	"attest/rules"
	"attest/sponge"
	"attest/tree"
	"attest/whole"
)

// sums are reckoned in, by plain means.
type sums struct{ p int }

func (s sums) of(n int) int       { return (n%s.p + s.p) % s.p }
func (s sums) times(a, b int) int { return s.of(a) * s.of(b) % s.p }
func (s sums) less(a, b int) int  { return s.of(s.of(a) - s.of(b)) }
func (s sums) plus(a, b int) int  { return s.of(s.of(a) + s.of(b)) }
func (s sums) over(a, b int) int  { return s.times(a, s.power(b, s.p-2)) }

func (s sums) power(a, n int) int {
	out := 1
	for a = s.of(a); n > 0; n /= 2 {
		if n%2 == 1 {
			out = out * a % s.p
		}
		a = a * a % s.p
	}
	return out
}

// column is what the polynomial is at t that has these values at the points of H, none of which is t.
func (s sums) column(values []int, root, t int) int {
	out, h := 0, 1
	for _, is := range values {
		out = s.plus(out, s.over(s.times(is, h), s.less(t, h)))
		h = s.times(h, root)
	}
	return s.over(s.times(out, s.less(s.power(t, len(values)), 1)), len(values))
}

// rowAt is what all columns are at t.
func (s sums) rowAt(rows [][]int, root, t int) []int {
	var out []int
	for j := range rows[0] {
		var values []int
		for _, row := range rows {
			values = append(values, row[j])
		}
		out = append(out, s.column(values, root, t))
	}
	return out
}

// factor is the product of x - (at + y is) over the four pairs of a row that begin there.
func (s sums) factor(row []int, at, is, x, y int) int {
	out := 1
	for j := range 4 {
		out = s.times(out, s.less(x, s.plus(row[at+j], s.times(y, row[is+j]))))
	}
	return out
}

// composedBy is Compose, by the words of W1 and W2.
func composedBy(f *field.Field, c api.Code, outcome int, rows [][]int, z []int, x, y, a int) []int {
	s, n, l := sums{f.P()}, len(rows), len(c.List)
	root := f.Root(n)
	end := s.power(root, n-1)
	var out []int
	for i := range 8 * n {
		t := s.times(f.Generator(), s.power(f.Root(8*n), i))
		next := s.times(t, root)
		row, rowNext := s.rowAt(rows, root, t), s.rowAt(rows, root, next)
		said := rules.Said(f, c, outcome, row, rowNext)
		passes := s.times(s.column(z, root, next), s.factor(row, 12, 16, x, y))
		passes = s.less(passes, s.times(s.column(z, root, t), s.factor(row, 3, 7, x, y)))
		said = append(said, passes, s.less(s.column(z, root, t), 1))
		sum := 0
		for k, is := range said {
			all := s.less(s.power(t, n), 1)
			by := all
			switch {
			case k >= l+12 && k < l+18:
				by = s.over(all, s.less(t, end))
			case k >= l+18 && k < l+24, k == l+27:
				by = s.less(t, 1)
			case k == l+24, k == l+25:
				by = s.less(t, end)
			}
			sum = s.plus(sum, s.times(s.power(a, k), s.over(is, by)))
		}
		out = append(out, sum)
	}
	return out
}

// prover makes vouchers by the words of W5; with what it is told to do otherwise, it makes ones that are not what they should be.
type prover struct {
	run
	asked   int
	f       *field.Field
	s       *sponge.Sponge
	table   [][]int               // the rows that are shown
	claimed int                   // the outcome
	label   []int                 // of the chain
	skipped int                   // pairs x y that are drawn, though there is a Product with them; below 0: none is drawn at all
	main    func([][]int) [][]int // what becomes of the rows of the first tree
	aux     func([][]int) [][]int // what becomes of the rows of the second one
	compose composer
	word    func([]int) []int // what becomes of the word that is folded
	open    func([]int) []int // what becomes of the places at which both trees are opened
}

// composer is Compose, or does what it does.
type composer func(f *field.Field, c api.Code, outcome int, rows [][]int, z []int, x, y, a int) ([]int, error)

// proverOf does nothing otherwise.
func proverOf(t *testing.T, r run, asked int) prover {
	t.Helper()
	return proverOfRows(t, r, asked, r.table(t))
}

// proverOfRows shows these rows, and does nothing else otherwise.
func proverOfRows(t *testing.T, r run, asked int, table [][]int) prover {
	t.Helper()
	f := fieldOf(t, r.p)
	s, err := sponge.New(f)
	if err != nil {
		t.Fatal(err)
	}
	label := []int{r.p, r.n, asked, r.outcome, r.c.Size}
	for _, in := range r.c.List {
		label = append(label, in.Op, in.A, in.B, in.C)
	}
	rows := func(l [][]int) [][]int { return l }
	list := func(l []int) []int { return l }
	return prover{run: r, asked: asked, f: f, s: s, table: table, claimed: r.outcome, label: label, main: rows, aux: rows,
		compose: whole.Compose, word: list, open: list}
}

// made is what came of it: the voucher, the places that were drawn, and the word as it should be.
type made struct {
	v     api.Voucher
	drawn []int
	word  []int
}

// spread gives what columns are over D: for each point a row.
func (w prover) spread(t *testing.T, rows [][]int) [][]int {
	t.Helper()
	h, d := domainOf(t, w.p, w.n, 1), domainOf(t, w.p, 8*w.n, w.f.Generator())
	out := make([][]int, 8*w.n)
	for j := range rows[0] {
		var values []int
		for _, row := range rows {
			values = append(values, row[j])
		}
		a, err := h.Coefficients(values)
		if err != nil {
			t.Fatal(err)
		}
		for i, is := range d.Values(a) {
			out[i] = append(out[i], is)
		}
	}
	return out
}

// transposed gives a list for each column.
func transposed(rows [][]int) [][]int {
	out := make([][]int, len(rows[0]))
	for _, row := range rows {
		for j, is := range row {
			out[j] = append(out[j], is)
		}
	}
	return out
}

// pair draws x and y: z, these, and Tries.
func (w prover) pair(talk *chain.Chain) (z []int, x, y, tries int) {
	if w.skipped < 0 {
		return slices.Repeat([]int{1}, w.n), 0, 0, w.skipped
	}
	for {
		x, y = talk.Draw(), talk.Draw()
		z, ok := rules.Product(w.f, w.table, x, y)
		if ok && tries >= w.skipped {
			return z, x, y, tries
		}
		tries++
	}
}

func (w prover) make(t *testing.T) (out made) {
	t.Helper()
	must := func(err error) {
		t.Helper()
		if err != nil {
			t.Fatalf("the voucher of %v: %v", w.run, err)
		}
	}
	v := &out.v
	var err error
	talk := chain.New(w.s, w.label)
	columns := w.spread(t, w.table)
	main := w.main(columns)
	v.Main, err = tree.Root(w.s, main)
	must(err)
	talk.Take(v.Main)
	z, x, y, tries := w.pair(talk)
	v.Tries = tries
	var zRows [][]int
	for _, is := range z {
		zRows = append(zRows, []int{is})
	}
	last := w.spread(t, zRows)
	aux := w.aux(last)
	v.Aux, err = tree.Root(w.s, aux)
	must(err)
	talk.Take(v.Aux)
	a := talk.Draw()
	g := talk.Draw()
	composed, err := w.compose(w.f, w.c, w.claimed, w.table, z, x, y, a)
	must(err)
	d := domainOf(t, w.p, 8*w.n, w.f.Generator())
	out.word, err = whole.Batch(d, composed, append(transposed(columns), transposed(last)...), g)
	must(err)
	v.Fold, out.drawn, err = fold.Make(w.s, talk, d, 4*w.n, w.word(slices.Clone(out.word)), w.asked)
	must(err)
	var places []int
	for _, q := range out.drawn {
		for _, more := range []int{0, 4 * w.n, 8, 4*w.n + 8} {
			places = append(places, (q+more)%(8*w.n))
		}
	}
	places = w.open(places)
	v.Rows, err = tree.Open(w.s, main, places)
	must(err)
	v.Last, err = tree.Open(w.s, aux, places)
	must(err)
	return out
}

// checks asks Check of what the prover claims.
func (w prover) checks(v api.Voucher) bool { return whole.Check(w.f, w.c, w.claimed, w.n, w.asked, v) }
