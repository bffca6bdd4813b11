package fold_test

import (
	"math/rand"
	"slices"
	"testing"

	"attest/api"
	"attest/chain"
	"attest/fold"
	"attest/tree"
)

// checkBy works Check out as O4 says it.
func (g stage) checkBy(t *testing.T, c *chain.Chain, o api.Folded) ([]int, bool) {
	t.Helper()
	if g.size < 2 || g.k < 1 || g.k > g.size/2 || g.size%g.k != 0 || g.asked < 1 || g.asked > 64 || len(o.Roots) != g.rounds() {
		return nil, false
	}
	var by []int
	for _, root := range o.Roots {
		c.Take(root)
		by = append(by, c.Draw())
	}
	c.Take(o.Last)
	var places []int
	for range g.asked {
		places = append(places, c.Place(g.size/2))
	}
	if len(o.Opens) != g.rounds() || !g.openBy(o, places) {
		return nil, false
	}
	for i, n := range o.Last {
		if i >= g.k>>g.rounds() && element(n, g.p) != 0 {
			return nil, false
		}
	}
	d := g.d
	for i, r := range by {
		half := halfOf(t, d)
		for _, q := range places {
			at := q % half.Size()
			row := rowBy(o.Opens[i], at)
			has := 0
			if i+1 == len(by) {
				has = evalBy(g.p, o.Last, half.Points()[at])
			} else if m := half.Size() / 2; at < m {
				has = rowBy(o.Opens[i+1], at)[0]
			} else {
				has = rowBy(o.Opens[i+1], at-m)[1]
			}
			if pairBy(g.p, d.Points()[at], row[0], row[1], r) != element(has, g.p) {
				return nil, false
			}
		}
		d = half
	}
	return places, true
}

// openBy tells whether what is shown is rows of the trees, of two elements, at just the places.
func (g stage) openBy(o api.Folded, places []int) bool {
	for i, open := range o.Opens {
		rows := g.size >> (i + 1)
		var want []int
		for at := range rows {
			if slices.ContainsFunc(places, func(q int) bool { return q%rows == at }) {
				want = append(want, at)
			}
		}
		if !slices.Equal(open.Places, want) || !tree.Check(g.s, o.Roots[i], rows, open) {
			return false
		}
		for _, row := range open.Rows {
			if len(row) != 2 {
				return false
			}
		}
	}
	return true
}

func rowBy(o api.Opening, at int) []int { return o.Rows[slices.Index(o.Places, at)] }

// asks holds Check against checkBy, and gives what it answers.
func (g stage) asks(t *testing.T, o api.Folded, what string) bool {
	t.Helper()
	c, e := g.chain(), g.chain()
	places, ok := fold.Check(g.s, c, g.d, g.k, g.asked, o)
	at, want := g.checkBy(t, e, o)
	same(t, ok, want, "%v, k = %d, asked = %d: Check %s", g.shape, g.k, g.asked, what)
	same(t, places, at, "%v, k = %d, asked = %d: places of Check %s", g.shape, g.k, g.asked, what)
	same(t, c.Digest(), e.Digest(), "%v, k = %d, asked = %d: the chain behind Check %s", g.shape, g.k, g.asked, what)
	return ok
}

// refuses asks that it is not shown.
func (g stage) refuses(t *testing.T, o api.Folded, what string) {
	t.Helper()
	if g.asks(t, o, what) {
		t.Errorf("%v, k = %d, asked = %d: Check %s: it is taken", g.shape, g.k, g.asked, what)
	}
}

// takes asks that it is shown.
func (g stage) takes(t *testing.T, o api.Folded, what string) {
	t.Helper()
	if !g.asks(t, o, what) {
		t.Errorf("%v, k = %d, asked = %d: Check %s: it is not taken", g.shape, g.k, g.asked, what)
	}
}

func copied(o api.Folded) (out api.Folded) {
	out.Last = slices.Clone(o.Last)
	for _, root := range o.Roots {
		out.Roots = append(out.Roots, slices.Clone(root))
	}
	for _, open := range o.Opens {
		own := api.Opening{Places: slices.Clone(open.Places)}
		for _, row := range open.Rows {
			own.Rows = append(own.Rows, slices.Clone(row))
		}
		for _, node := range open.Nodes {
			own.Nodes = append(own.Nodes, slices.Clone(node))
		}
		out.Opens = append(out.Opens, own)
	}
	return out
}

func TestO4CheckTakesWhatMakeMakes(t *testing.T) {
	r := rand.New(rand.NewSource(11))
	eachStage(t, func(g stage) {
		for range 3 {
			c, e := g.chain(), g.chain()
			o, places := g.made(t, c, g.codeword(r))
			at, ok := fold.Check(g.s, e, g.d, g.k, g.asked, o)
			same(t, ok, true, "%v, k = %d: Check of what Make made", g.shape, g.k)
			same(t, at, places, "%v, k = %d: places of Check", g.shape, g.k)
			same(t, e.Digest(), c.Digest(), "%v, k = %d: the chain behind Check", g.shape, g.k)
			g.takes(t, o, "of what Make made")
		}
	})
}

// TestO4AnotherChainAnotherAnswer: what was made on one chain is not shown on one that was told something else.
func TestO4AnotherChainAnotherAnswer(t *testing.T) {
	g := stageOf(t, shape{2013265921, 64, 31}, 32, 9)
	r := rand.New(rand.NewSource(12))
	o, _ := g.made(t, g.chain(), g.codeword(r))
	c := g.chain()
	c.Take([]int{1})
	places, ok := fold.Check(g.s, c, g.d, g.k, g.asked, o)
	same(t, ok, false, "Check on another chain")
	same(t, len(places), 0, "places on another chain")
}

// TestO4WrongSizes: nothing is looked at, and the chain stays as it is.
func TestO4WrongSizes(t *testing.T) {
	g := stageOf(t, shape{97, 32, 5}, 16, 3)
	r := rand.New(rand.NewSource(13))
	o, _ := g.made(t, g.chain(), g.codeword(r))
	stays := func(g stage, o api.Folded, what string) {
		t.Helper()
		c := g.chain()
		places, ok := fold.Check(g.s, c, g.d, g.k, g.asked, o)
		same(t, ok, false, "Check %s", what)
		same(t, len(places), 0, "places of Check %s", what)
		same(t, c.Digest(), g.chain().Digest(), "the chain behind Check %s", what)
	}
	for _, size := range []int{1, 2, 8, 16, 32} {
		for _, k := range []int{0, -1, -16, 3, 12, size, 2 * size, 64, -1 << 63, 1 << 62} {
			wrong := stageOf(t, shape{97, size, 5}, k, 3)
			stays(wrong, o, "with a wrong k")
			stays(wrong, api.Folded{}, "of nothing with a wrong k")
		}
	}
	for _, k := range []int{1, 16} {
		for _, asked := range wrongAsked {
			wrong := g
			wrong.k, wrong.asked = k, asked
			stays(wrong, o, "with a wrong asked")
			stays(wrong, api.Folded{}, "of nothing with a wrong asked")
		}
	}
	for _, roots := range [][][]int{nil, o.Roots[:1], append(slices.Clone(o.Roots), o.Roots[0]), append(slices.Clone(o.Roots), nil)} {
		wrong := copied(o)
		wrong.Roots = roots
		stays(g, wrong, "with more or fewer Roots")
	}
	one := stageOf(t, shape{97, 32, 5}, 4, 3)
	stays(one, api.Folded{Roots: [][]int{{1, 2, 3, 4}}, Opens: o.Opens[:1]}, "with a Root where there is no round")
}

// TestO4TheChainGoesOn: where there are as many Roots as rounds, whatever else is wrong.
func TestO4TheChainGoesOn(t *testing.T) {
	g := stageOf(t, shape{97, 32, 5}, 16, 3)
	r := rand.New(rand.NewSource(14))
	o, _ := g.made(t, g.chain(), g.codeword(r))
	for _, wrong := range []api.Folded{
		{Roots: o.Roots, Last: o.Last},
		{Roots: o.Roots, Opens: o.Opens},
		{Roots: o.Roots, Last: o.Last, Opens: o.Opens[:1]},
		{Roots: o.Roots, Last: o.Last, Opens: append(slices.Clone(o.Opens), api.Opening{})},
		{Roots: o.Roots, Last: append(slices.Clone(o.Last), 1), Opens: o.Opens},
		{Roots: [][]int{nil, {1, 2, 3, 4, 5, 6, 7}}, Last: []int{1, 2, 3, 4, 5}, Opens: o.Opens},
		{Roots: [][]int{o.Roots[1], o.Roots[0]}, Last: o.Last, Opens: o.Opens},
	} {
		c := g.chain()
		fold.Check(g.s, c, g.d, g.k, g.asked, wrong)
		if slices.Equal(c.Digest(), g.chain().Digest()) {
			t.Errorf("the chain stays as it is with %v", wrong)
		}
		g.refuses(t, wrong, "with something wrong")
	}
}

// TestO4EachNumberIsLookedAt: no number may be changed, and no list be left out or added.
func TestO4EachNumberIsLookedAt(t *testing.T) {
	r := rand.New(rand.NewSource(15))
	for _, g := range []stage{stageOf(t, shape{193, 32, 5}, 16, 3), stageOf(t, shape{2013265921, 64, 31}, 32, 40)} {
		o, _ := g.made(t, g.chain(), g.codeword(r))
		count := len(lists(o, nil))
		for i := range count {
			for j := range lists(o, nil)[i] {
				wrong := copied(o)
				lists(wrong, nil)[i][j]++
				g.refuses(t, wrong, "of a number that is one more")
			}
		}
		for i := range o.Opens {
			for _, part := range []func(o *api.Opening) *[][]int{
				func(o *api.Opening) *[][]int { return &o.Rows },
				func(o *api.Opening) *[][]int { return &o.Nodes },
			} {
				wrong := copied(o)
				l := part(&wrong.Opens[i])
				*l = append(*l, []int{1, 2, 3, 4})
				g.refuses(t, wrong, "with a list more")
				*l = (*l)[:max(0, len(*l)-2)]
				if len(*part(&o.Opens[i])) > 0 {
					g.refuses(t, wrong, "with a list fewer")
				}
			}
			wrong := copied(o)
			wrong.Opens[i] = api.Opening{Nodes: [][]int{o.Roots[i]}}
			g.refuses(t, wrong, "that shows no place")
		}
	}
}

// TestO4NumbersAreElements: what differs by multiples of the prime makes no difference, but for places.
func TestO4NumbersAreElements(t *testing.T) {
	r := rand.New(rand.NewSource(16))
	eachStage(t, func(g stage) {
		o, _ := g.made(t, g.chain(), g.codeword(r))
		moved := copied(o)
		for _, l := range lists(moved, nil) {
			if !slices.ContainsFunc(moved.Opens, func(open api.Opening) bool { return len(l) > 0 && len(open.Places) > 0 && &l[0] == &open.Places[0] }) {
				for j := range l {
					l[j] += g.p * (r.Intn(9) - 4)
				}
			}
		}
		g.takes(t, moved, "of other numbers for the same elements")
		for i := range moved.Opens {
			wrong := copied(o)
			wrong.Opens[i].Places[0] += g.p
			g.refuses(t, wrong, "of a place that is more by the prime")
		}
	})
}

// TestO4LastMayHaveZerosAtItsEnd: its degree counts; but the chain takes them in, so that places are others.
func TestO4LastMayHaveZerosAtItsEnd(t *testing.T) {
	r := rand.New(rand.NewSource(17))
	eachStage(t, func(g stage) {
		long := func(last []int) []int { return append(slices.Clone(last), 0, g.p, -g.p, 0, 0, 0) }
		word := g.codeword(r)
		o, _ := forged{last: long}.make(t, g, g.chain(), word)
		g.takes(t, o, "with zeros at the end of Last")
		o, _ = g.made(t, g.chain(), word)
		o.Last = long(o.Last)
		if g.rounds() == 0 {
			g.takes(t, o, "with zeros behind Last")
		} else if g.p > 1000 {
			g.refuses(t, o, "with zeros behind Last")
		}
	})
}

// TestO4LastOfAHigherDegree: where all else is as O3 says.
func TestO4LastOfAHigherDegree(t *testing.T) {
	eachStage(t, func(g stage) {
		if g.k<<1 > g.size/2 {
			return
		}
		o, _ := forged{}.make(t, g, g.chain(), g.d.Values(append(make([]int, g.k), 1)))
		g.refuses(t, o, "of a word of the degree k")
		o, _ = forged{}.make(t, g, g.chain(), g.d.Values(append(make([]int, g.k-1), 1)))
		g.takes(t, o, "of a word of the degree k - 1")
	})
	for _, k := range []int{1, 2, 4} { // without a round
		g := stageOf(t, shape{97, 32, 5}, k, 3)
		for n := range 7 {
			o := api.Folded{Last: append(make([]int, n), -1)}
			if n < k {
				g.takes(t, o, "of any Last without a round")
			} else {
				g.refuses(t, o, "of a Last of too high a degree without a round")
			}
		}
		g.refuses(t, api.Folded{Opens: []api.Opening{{}}}, "with an Opening where there is no round")
	}
}

// spoilt is Make of which a round's word is changed at one place or, behind the last round, Last is.
func spoilt(round, at int) forged {
	return forged{
		word: func(i int, word []int) []int {
			if i == round {
				word[at]++
			}
			return word
		},
		last: func(last []int) []int {
			last = slices.Concat(last, make([]int, 4))[:max(4, len(last))]
			if round == 3 {
				last[at%4]++
			}
			return last
		},
	}
}

// TestO4WordsThatDoNotAgree: a round's word, or Last, is not quite what the one ahead is folded to.
func TestO4WordsThatDoNotAgree(t *testing.T) {
	r := rand.New(rand.NewSource(18))
	for _, asked := range []int{1, 4, 64} {
		g := stageOf(t, shape{193, 64, 5}, 32, asked)
		same(t, g.rounds(), 3, "rounds")
		for range 60 {
			round := 1 + r.Intn(3)
			o, _ := spoilt(round, r.Intn(64>>round)).make(t, g, g.chain(), g.codeword(r))
			if g.asks(t, o, "of words that do not agree") && asked == 64 {
				t.Errorf("round %d does not agree with the one ahead, and is taken", round)
			}
		}
		o, _ := spoilt(-1, 0).make(t, g, g.chain(), g.codeword(r))
		g.takes(t, o, "of words that agree")
	}
}

// TestO4AWrongRowIsSeenWhereItIsAsked: all words agree, but one tree has a row that is not the word's.
func TestO4AWrongRowIsSeenWhereItIsAsked(t *testing.T) {
	r := rand.New(rand.NewSource(19))
	g := stageOf(t, shape{193, 64, 5}, 32, 4)
	for round := range g.rounds() {
		taken, refused := 0, 0
		for range 40 {
			rows, side := g.size>>(round+1), r.Intn(2)
			at := r.Intn(rows)
			m := forged{row: func(i, place int, row []int) []int {
				if i == round && place == at {
					row[side]++
				}
				return row
			}}
			o, places := m.make(t, g, g.chain(), g.codeword(r))
			if slices.ContainsFunc(places, func(q int) bool { return q%rows == at }) {
				g.refuses(t, o, "of a tree with one row wrong, which is asked")
				refused++
			} else {
				g.takes(t, o, "of a tree with one row wrong, which is not asked")
				taken++
			}
		}
		if taken == 0 || refused == 0 {
			t.Errorf("round %d: %d were taken, %d refused", round, taken, refused)
		}
	}
}

// TestO4OtherPlacesAndRows: the trees are as they are told, but something else is shown of them.
func TestO4OtherPlacesAndRows(t *testing.T) {
	r := rand.New(rand.NewSource(20))
	for _, g := range []stage{stageOf(t, shape{193, 64, 5}, 16, 3), stageOf(t, shape{12289, 128, 1}, 32, 2)} {
		for round := range g.rounds() {
			rows := g.size >> (round + 1)
			in := func(change func(l []int) []int) func(i int, l []int) []int {
				return func(i int, l []int) []int {
					if i != round {
						return l
					}
					return change(slices.Clone(l))
				}
			}
			for what, m := range map[string]forged{
				"with one place more":     {opened: in(func(l []int) []int { return append(l, unasked(l, rows)) })},
				"with all places":         {opened: in(func(l []int) []int { return all(rows) })},
				"with one place fewer":    {opened: in(func(l []int) []int { return without(l, l[0]) })},
				"with another place":      {opened: in(func(l []int) []int { return append(without(l, l[0]), unasked(l, rows)) })},
				"with no place":           {opened: in(func(l []int) []int { return nil })},
				"with rows of three":      {row: inRow(round, func(row []int) []int { return append(row, 0) })},
				"with rows of one":        {row: inRow(round, func(row []int) []int { return row[:1] })},
				"with rows of none":       {row: inRow(round, func(row []int) []int { return nil })},
				"with rows the wrong way": {row: inRow(round, func(row []int) []int { return []int{row[1], row[0]} })},
			} {
				o, _ := m.make(t, g, g.chain(), g.codeword(r))
				g.refuses(t, o, what)
			}
		}
	}
}

// TestO4AnOpeningTooMany: it shows pairs at just the places that one more round would ask for.
func TestO4AnOpeningTooMany(t *testing.T) {
	r := rand.New(rand.NewSource(24))
	eachStage(t, func(g stage) {
		o, places := g.made(t, g.chain(), g.codeword(r))
		rows := max(1, g.size>>(g.rounds()+1))
		var more api.Opening
		for at := range rows {
			if slices.ContainsFunc(places, func(q int) bool { return q%rows == at }) {
				more.Places, more.Rows = append(more.Places, at), append(more.Rows, []int{1, 2})
			}
		}
		o.Opens = append(o.Opens, more)
		g.refuses(t, o, "with an Opening more")
	})
}

// TestO4OneRowOfThree: the others are of two.
func TestO4OneRowOfThree(t *testing.T) {
	r := rand.New(rand.NewSource(21))
	g := stageOf(t, shape{193, 32, 5}, 8, 64)
	m := forged{row: func(_, i int, row []int) []int {
		if i == 9 {
			return append(row, 5)
		}
		return row
	}}
	o, places := m.make(t, g, g.chain(), g.codeword(r))
	if !slices.Contains(places, 9) {
		t.Fatalf("place 9 is not asked: %v", places)
	}
	g.refuses(t, o, "with one row of three")
}

func inRow(round int, change func(row []int) []int) func(i, at int, row []int) []int {
	return func(i, _ int, row []int) []int {
		if i != round {
			return row
		}
		return change(row)
	}
}

func all(n int) (out []int) {
	for i := range n {
		out = append(out, i)
	}
	return out
}

func unasked(places []int, rows int) int {
	return slices.IndexFunc(all(rows), func(at int) bool { return !slices.Contains(places, at) })
}

func without(places []int, at int) []int {
	return slices.DeleteFunc(slices.Clone(places), func(q int) bool { return q == at })
}

// TestO4CheckOfAnything: of few numbers, and of lists of wrong lengths; none ends by a panic.
func TestO4CheckOfAnything(t *testing.T) {
	r := rand.New(rand.NewSource(22))
	some := func(n int) (out [][]int) {
		for range r.Intn(n + 1) {
			out = append(out, someList(r, 97, r.Intn(5)))
		}
		return out
	}
	for range 2000 {
		g := stageOf(t, shape{97, 1 << r.Intn(6), 5}, 1<<r.Intn(6), 1+r.Intn(3))
		o := api.Folded{Roots: some(3), Last: someList(r, 97, r.Intn(6))}
		for range r.Intn(4) {
			o.Opens = append(o.Opens, api.Opening{Places: someList(r, 97, r.Intn(4)), Rows: some(3), Nodes: some(4)})
		}
		g.asks(t, o, "of anything")
	}
}

// TestP2CheckLeavesListsAlone: they are neither written nor kept.
func TestP2CheckLeavesListsAlone(t *testing.T) {
	g := stageOf(t, shape{97, 32, 5}, 16, 4)
	r := rand.New(rand.NewSource(23))
	o, _ := g.made(t, g.chain(), g.codeword(r))
	before := copied(o)
	places, ok := fold.Check(g.s, g.chain(), g.d, g.k, g.asked, o)
	same(t, ok, true, "Check")
	same(t, o, before, "what is handed in")
	for i := range places {
		places[i] = -1
	}
	same(t, o, before, "what is handed in, the answer being written into")
	g.takes(t, o, "again")
}

func TestTableOfTheDocument(t *testing.T) {
	g := stageOf(t, shape{97, 8, 5}, 8, 1)
	g.refusedMake(t, make([]int, 8), api.ErrSize, "as k is above 4")
}
