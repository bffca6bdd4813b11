package pledge_test

import (
	"math"
	"math/rand"
	"slices"
	"testing"

	"attest/api"
	"attest/chain"
	"attest/pledge"
	"attest/tree"
)

func TestE5CheckTakesWhatOpenTells(t *testing.T) {
	r := rand.New(rand.NewSource(10))
	eachStage(t, func(g stage) {
		for range 2 {
			table, at := g.table(r), g.point(r)
			c, e := g.chain(), g.chain()
			o, is := g.opened(t, c, table, at)
			said, ok := pledge.Check(g.s, e, g.d, g.v, at, g.asked, o)
			same(t, ok, true, "%v: Check", g)
			same(t, said, is, "%v: what Check says", g)
			same(t, e.Digest(), c.Digest(), "%v: the chain behind Check", g)
			g.takes(t, at, o, is, "of what Open tells")
		}
	})
}

// TestE4AnotherChainOrPoint: what was told on one chain, of one point, is shown on no other, and of no other.
func TestE4AnotherChainOrPoint(t *testing.T) {
	g := stageOf(t, 2013265921, 64, 31, 4, 9)
	r := rand.New(rand.NewSource(11))
	at := g.point(r)
	o, _ := g.opened(t, g.chain(), g.table(r), at)
	is, ok := pledge.Check(g.s, chain.New(g.s, nil), g.d, g.v, at, g.asked, o)
	same(t, ok, false, "Check on another chain")
	same(t, is, 0, "what Check says on another chain")
	for i := range at {
		other := slices.Clone(at)
		other[i]++
		g.refuses(t, other, o, "at another point")
	}
	for _, asked := range []int{1, 8, 10, 64} {
		other := g
		other.asked = asked
		other.refuses(t, at, o, "with another asked")
	}
}

// TestE4WrongSizes: of variables, of the point, of places that are asked.
func TestE4WrongSizes(t *testing.T) {
	r := rand.New(rand.NewSource(12))
	eachStage(t, func(g stage) {
		at := g.point(r)
		o, _ := g.opened(t, g.chain(), g.table(r), at)
		for _, v := range []int{-1, 13, 14, 63, 64, 65, math.MinInt, math.MaxInt, g.v - 1, g.v + 1, g.v + 64} {
			is, ok := pledge.Check(g.s, g.chain(), g.d, v, at, g.asked, o)
			same(t, ok, false, "%v: Check with %d variables", g, v)
			same(t, is, 0, "%v: what Check says with %d variables", g, v)
			if v < 0 || v > 70 {
				continue
			}
			is, ok = pledge.Check(g.s, g.chain(), g.d, v, someList(r, g.p, v), g.asked, o)
			same(t, ok, false, "%v: Check with %d variables, and a point of as many", g, v)
			same(t, is, 0, "%v: what Check says with %d variables, and a point of as many", g, v)
		}
		g.refuses(t, append(slices.Clone(at), 0), o, "with an element of the point more")
		if g.v > 0 {
			g.refuses(t, at[:g.v-1], o, "with an element of the point fewer")
		}
		for _, asked := range wrongAsked {
			wrong := g
			wrong.asked = asked
			wrong.refuses(t, at, o, "with a wrong asked")
		}
	})
}

// TestE4TooManyVariables: all else is as for 12.
func TestE4TooManyVariables(t *testing.T) {
	g := stageOf(t, 12289, 256, 11, 13, 2)
	at := make([]int, 13)
	o, _ := forged{}.open(t, g, g.chain(), make([]int, 1<<13), at)
	g.refuses(t, at, o, "with 13 variables")
	g.v = 12
	o, _ = forged{}.open(t, g, g.chain(), make([]int, 1<<12), at[:12])
	g.takes(t, at[:12], o, 0, "with 12 variables")
}

// TestE4TooFewPoints: rows of more than half as many elements as there are points are not shown, though all else is so.
func TestE4TooFewPoints(t *testing.T) {
	r := rand.New(rand.NewSource(13))
	for _, n := range [][2]int{{1, 0}, {2, 1}, {2, 2}, {1, 2}, {4, 3}, {4, 4}, {2, 4}, {8, 5}, {8, 6}, {8, 8}} {
		g := stageOf(t, 97, n[0], 5, n[1], 64)
		at := g.point(r)
		o, _ := forged{}.open(t, g, g.chain(), g.table(r), at)
		g.refuses(t, at, o, "over too few points")
		g = stageOf(t, 97, 2*g.wide(), 5, n[1], 64)
		table := g.table(r)
		o, is := forged{}.open(t, g, g.chain(), table, at)
		g.takes(t, at, o, is, "over just enough points")
	}
}

// TestE4EachNumberIsLookedAt: no number may be changed, and no list be left out or added.
func TestE4EachNumberIsLookedAt(t *testing.T) {
	r := rand.New(rand.NewSource(14))
	for _, g := range []stage{stageOf(t, 12289, 64, 11, 5, 12), stageOf(t, 2013265921, 64, 31, 6, 20), stageOf(t, 12289, 32, 11, 0, 7)} {
		at := g.point(r)
		o, _ := g.opened(t, g.chain(), g.table(r), at)
		for i, l := range lists(o) {
			for j := range l {
				wrong := copied(o)
				lists(wrong)[i][j]++
				g.refuses(t, at, wrong, "of a number that is one more")
			}
		}
		for _, part := range []func(o *api.Pledge) *[]int{
			func(o *api.Pledge) *[]int { return &o.Root },
			func(o *api.Pledge) *[]int { return &o.Mixed },
			func(o *api.Pledge) *[]int { return &o.Point },
			func(o *api.Pledge) *[]int { return &o.Columns.Places },
			func(o *api.Pledge) *[]int { return &o.Columns.Rows[0] },
			func(o *api.Pledge) *[]int { return &o.Columns.Nodes[0] },
		} {
			wrong := copied(o)
			l := part(&wrong)
			*l = append(*l, 0)
			g.refuses(t, at, wrong, "with a number more")
			*l = (*l)[:len(*l)-2]
			g.refuses(t, at, wrong, "with a number fewer")
			*l = nil
			g.refuses(t, at, wrong, "with a list of nothing")
		}
		for _, part := range []func(o *api.Pledge) *[][]int{
			func(o *api.Pledge) *[][]int { return &o.Columns.Rows },
			func(o *api.Pledge) *[][]int { return &o.Columns.Nodes },
		} {
			wrong := copied(o)
			l := part(&wrong)
			*l = append(*l, slices.Clone((*l)[0]))
			g.refuses(t, at, wrong, "with a list more")
			*l = (*l)[:len(*l)-2]
			g.refuses(t, at, wrong, "with a list fewer")
		}
		g.refuses(t, at, api.Pledge{}, "of nothing")
	}
}

// TestE4NumbersAreElements: what differs by multiples of the prime makes no difference, but for places.
func TestE4NumbersAreElements(t *testing.T) {
	r := rand.New(rand.NewSource(15))
	eachStage(t, func(g stage) {
		at := g.point(r)
		o, is := g.opened(t, g.chain(), g.table(r), at)
		moved, all := copied(o), lists(o)
		for i, l := range lists(moved)[:len(all)-1] {
			for j := range l {
				l[j] = all[i][j] + g.p*(r.Intn(9)-4)
			}
		}
		g.takes(t, at, moved, is, "of other numbers for the same elements")
		other := elements(at, g.p)
		for i := range other {
			other[i] += g.p * (r.Intn(9) - 4)
		}
		g.takes(t, other, moved, is, "at other numbers for the same elements")
		moved.Columns.Places[0] += g.p
		g.refuses(t, at, moved, "of a place that is more by the prime")
		moved.Columns.Places[0] -= 2 * g.p
		g.refuses(t, at, moved, "of a place that is less by the prime")
	})
}

// oneMore gives what changes a list at a place.
func oneMore(place int) func(l []int) []int {
	return func(l []int) []int {
		l = slices.Clone(l)
		l[place]++
		return l
	}
}

// TestE4AnotherMixture: the tree is the table's, but Mixed, or Point, is not, and the chain was told that. It agrees with
// what it should be at fewer places than it has elements.
func TestE4AnotherMixture(t *testing.T) {
	r := rand.New(rand.NewSource(16))
	eachStage(t, func(g stage) {
		for range 4 {
			table, at, place := g.table(r), g.point(r), r.Intn(g.wide())
			for what, m := range map[string]forged{
				"of another Mixed":            {mixed: oneMore(place)},
				"of another Point":            {point: oneMore(place)},
				"of another Mixed, and Point": {mixed: oneMore(place), point: oneMore(place)},
			} {
				o, _ := m.open(t, g, g.chain(), table, at)
				if _, ok := g.asks(t, at, o, what); ok {
					t.Errorf("%v: Check %s, by one coefficient, which is 0 at no point: it is taken", g, what)
				}
			}
		}
	})
}

// TestE4AMixtureThatAgreesWhereItIsAsked: it is another one, but is at the places that are shown what it should be.
func TestE4AMixtureThatAgreesWhereItIsAsked(t *testing.T) {
	r := rand.New(rand.NewSource(17))
	g := stageOf(t, 97, 16, 5, 6, 1)
	x := g.d.Point(3)
	zeroAtX := func(l []int) []int {
		l = slices.Clone(l)
		l[0], l[1] = l[0]-x, l[1]+1
		return l
	}
	taken, refused := 0, 0
	for range 100 {
		table, at := g.table(r), g.point(r)
		o, _ := forged{point: zeroAtX}.open(t, g, g.chain(), table, at)
		is, ok := g.asks(t, at, o, "of a Point that is the same at one point")
		same(t, ok, o.Columns.Places[0] == 3, "%v: is a Point taken that is the same at the point 3, %v being asked", g, o.Columns.Places)
		if !ok {
			refused++
			continue
		}
		taken++
		same(t, is, extendBy(97, o.Point, at[3:]), "%v: what Check says is what Point says", g)
	}
	if taken == 0 || refused == 0 {
		t.Errorf("%d were taken, %d refused", taken, refused)
	}
}

// TestE4AWrongColumnIsSeenWhereItIsAsked: Mixed and Point are right, but the tree has one element that is not the rows'.
func TestE4AWrongColumnIsSeenWhereItIsAsked(t *testing.T) {
	r := rand.New(rand.NewSource(18))
	g := stageOf(t, 193, 16, 5, 5, 8)
	taken, refused := 0, 0
	for range 60 {
		row, place := r.Intn(g.tall()), r.Intn(g.size)
		m := forged{column: func(j int, l []int) []int {
			if j == place {
				l[row]++
			}
			return l
		}}
		at := someList(r, 193, 5)
		o, is := m.open(t, g, g.chain(), g.table(r), at)
		if !slices.Contains(o.Columns.Places, place) {
			g.takes(t, at, o, is, "of a tree with one column wrong, which is not asked")
			taken++
		} else if _, ok := g.asks(t, at, o, "of a tree with one column wrong, which is asked"); !ok {
			refused++
		}
	}
	if taken == 0 || refused == 0 {
		t.Errorf("%d were taken, %d refused", taken, refused)
	}
}

// TestE4AColumnThatMixedAloneSees: it is wrong, but with the weights of Point it comes to the same.
func TestE4AColumnThatMixedAloneSees(t *testing.T) {
	r := rand.New(rand.NewSource(19))
	refused := 0
	g := stageOf(t, 193, 8, 5, 2, 64) // all columns are shown, of two elements each
	unseen := func(at []int) forged {
		// The sum of its weights, 1 - at[0] and at[0], with -at[0] and 1 - at[0] is 0.
		return forged{column: func(j int, l []int) []int {
			if j == 5 {
				l[0], l[1] = l[0]-element(at[0], 193), l[1]+1-element(at[0], 193)
			}
			return l
		}}
	}
	for range 20 {
		at := []int{1 + r.Intn(191), r.Intn(193)}
		o, _ := unseen(at).open(t, g, g.chain(), g.table(r), at)
		same(t, len(o.Columns.Places), 8, "columns that are shown")
		same(t, evalBy(193, o.Point, g.d.Point(5)), extendBy(193, o.Columns.Rows[5], at[:1]), "what Point is at the column")
		if !mixesTo0(g.chain(), o.Root, at) {
			g.refuses(t, at, o, "of a column that Mixed alone sees")
			refused++
		}
	}
	if refused == 0 {
		t.Errorf("none was refused")
	}
}

// mixesTo0 tells whether -at[0] and 1 - at[0] are mixed to 0 by what the chain draws.
func mixesTo0(c *chain.Chain, root, at []int) bool {
	c.Take(root)
	c.Take(at)
	return element(-at[0]+c.Draw()*(1-at[0]), 193) == 0
}

// TestE4OtherPlacesAndColumns: the chain goes on as it should, but something else is shown of the tree.
func TestE4OtherPlacesAndColumns(t *testing.T) {
	r := rand.New(rand.NewSource(20))
	unasked := func(places, all []int) int {
		return all[slices.IndexFunc(all, func(j int) bool { return !slices.Contains(places, j) })]
	}
	without := func(places []int) []int {
		return slices.DeleteFunc(slices.Clone(places), func(j int) bool { return j == places[0] })
	}
	zeros := func(l []int) []int { return append(slices.Clone(l), 0) }
	for _, g := range []stage{stageOf(t, 97, 16, 5, 0, 3), stageOf(t, 193, 32, 5, 3, 3), stageOf(t, 12289, 64, 11, 6, 5)} {
		table, at := g.table(r), g.point(r)
		for what, m := range map[string]forged{
			"with one place more":         {places: func(l, all []int) []int { return append(l, unasked(l, all)) }},
			"with all places":             {places: func(l, all []int) []int { return all }},
			"with one place fewer":        {places: func(l, all []int) []int { return without(l) }},
			"with another place":          {places: func(l, all []int) []int { return append(without(l), unasked(l, all)) }},
			"with no place":               {places: func(l, all []int) []int { return nil }},
			"with an element more":        {column: func(j int, l []int) []int { return append(l, 0) }},
			"with two elements more":      {column: func(j int, l []int) []int { return append(l, 0, 0) }},
			"with a zero behind Mixed":    {mixed: zeros},
			"with a zero behind Point":    {point: zeros},
			"with a zero behind both":     {mixed: zeros, point: zeros},
			"with no Mixed":               {mixed: func(l []int) []int { return nil }},
			"with no Point":               {point: func(l []int) []int { return nil }},
			"with a place that is twice":  {shown: func(o api.Opening) api.Opening { return twice(o) }},
			"with places not ascending":   {shown: func(o api.Opening) api.Opening { return backward(o) }},
			"with columns without places": {shown: func(o api.Opening) api.Opening { o.Places = nil; return o }},
		} {
			o, _ := m.open(t, g, g.chain(), table, at)
			g.refuses(t, at, o, what)
		}
	}
}

func twice(o api.Opening) api.Opening {
	o.Places, o.Rows = slices.Insert(o.Places, 0, o.Places[0]), slices.Insert(o.Rows, 0, o.Rows[0])
	return o
}

func backward(o api.Opening) api.Opening {
	slices.Reverse(o.Places)
	slices.Reverse(o.Rows)
	if len(o.Places) < 2 {
		return twice(o)
	}
	return o
}

// TestE4FewerNumbersThatAreZero: a table whose last elements are 0 needs them all the same.
func TestE4FewerNumbersThatAreZero(t *testing.T) {
	g := stageOf(t, 193, 16, 5, 4, 4)
	table, at := make([]int, 16), []int{5, 6, 7, 8}
	table[0], table[1], table[4] = 3, 4, 5
	shorter := func(l []int) []int { return l[:3] }
	for what, m := range map[string]forged{
		"of shorter columns":            {column: func(j int, l []int) []int { return l[:3] }},
		"of one column that is shorter": {column: func(j int, l []int) []int { return l[:4-j/15] }},
		"of a shorter Mixed":            {mixed: shorter},
		"of a shorter Point":            {point: shorter},
	} {
		one := g
		one.asked = 64
		o, _ := m.open(t, one, one.chain(), table, at)
		one.refuses(t, at, o, what)
		o, _ = m.open(t, g, g.chain(), table, at)
		g.asks(t, at, o, what)
	}
	o, is := forged{}.open(t, g, g.chain(), table, at)
	g.takes(t, at, o, is, "of all zeros")
}

// TestE4RowsThatAreNoCodewords: the tree is of words that are none, all of whose columns are shown.
func TestE4RowsThatAreNoCodewords(t *testing.T) {
	r := rand.New(rand.NewSource(21))
	for _, v := range []int{0, 1, 2, 3, 4} {
		g := stageOf(t, 12289, 8, 11, v, 64)
		for range 5 {
			row := r.Intn(g.tall())
			high := g.d.Values(append(make([]int, g.wide()+r.Intn(8-g.wide())), 1))
			m := forged{word: func(i int, word []int) []int {
				for j := range word {
					if i == row {
						word[j] = element(word[j]+high[j], g.p)
					}
				}
				return word
			}}
			at := someList(r, g.p, v)
			o, _ := m.open(t, g, g.chain(), g.table(r), at)
			g.refuses(t, at, o, "of rows of a higher degree")
		}
	}
}

// TestE4CheckOfAnything: of few numbers, and of lists of wrong lengths; none ends by a panic.
func TestE4CheckOfAnything(t *testing.T) {
	r := rand.New(rand.NewSource(22))
	lists := func(n int) (out [][]int) {
		for range r.Intn(n + 1) {
			out = append(out, someList(r, 97, r.Intn(5)))
		}
		return out
	}
	for range 3000 {
		g := stageOf(t, 97, 1<<r.Intn(6), 5, r.Intn(5), 1+r.Intn(3))
		o := api.Pledge{Root: someList(r, 97, 4), Mixed: someList(r, 97, g.wide()), Point: someList(r, 97, g.wide())}
		o.Columns = api.Opening{Places: someList(r, 97, r.Intn(4)), Rows: lists(3), Nodes: lists(4)}
		switch r.Intn(6) {
		case 0:
			o.Root = someList(r, 97, r.Intn(6))
		case 1:
			o.Mixed = someList(r, 97, r.Intn(6))
		case 2:
			o.Point = someList(r, 97, r.Intn(6))
		}
		g.asks(t, someList(r, 97, g.v), o, "of anything")
	}
}

// TestP2CheckLeavesListsAlone: they are neither written nor kept.
func TestP2CheckLeavesListsAlone(t *testing.T) {
	g := stageOf(t, 97, 32, 5, 5, 4)
	r := rand.New(rand.NewSource(23))
	at := g.point(r)
	o, is := g.opened(t, g.chain(), g.table(r), at)
	before, point := copied(o), slices.Clone(at)
	for range 2 {
		g.takes(t, at, o, is, "of what Open tells")
		same(t, o, before, "what is handed in")
		same(t, at, point, "the point")
	}
}

// TestE5OneRootOneAnswer: on other chains, with all columns shown, a table's pledges say the same at a point.
func TestE5OneRootOneAnswer(t *testing.T) {
	r := rand.New(rand.NewSource(24))
	for v := range 5 {
		g := stageOf(t, 97, 8, 5, v, 64)
		table, at := g.table(r), g.point(r)
		for label := range 5 {
			o, is := g.opened(t, chain.New(g.s, []int{label}), table, at)
			said, ok := pledge.Check(g.s, chain.New(g.s, []int{label}), g.d, v, at, 64, o)
			same(t, ok, true, "%v: Check", g)
			same(t, said, is, "%v: what Check says", g)
			same(t, said, extendBy(97, table, at), "%v: what Check says, on the chain %d", g, label)
		}
	}
}

// TestE5OneRootTwoTables: in a small field two tables with one root are found; their pledges, which both are taken, and say
// something else, give two lists with one digest.
func TestE5OneRootTwoTables(t *testing.T) {
	g := stageOf(t, 29, 4, 2, 2, 64)
	for seed := range int64(3) {
		r := rand.New(rand.NewSource(25 + seed))
		one, other := g.alike(t, r)
		at := []int{r.Intn(29), r.Intn(29)}
		a, x := g.opened(t, g.chain(), one, at)
		b, y := g.opened(t, chain.New(g.s, []int{9}), other, at)
		same(t, a.Root, b.Root, "roots of %v and %v", one, other)
		said, ok := pledge.Check(g.s, g.chain(), g.d, 2, at, 64, a)
		same(t, ok, true, "Check of the one")
		same(t, said, x, "what Check says of the one")
		said, ok = pledge.Check(g.s, chain.New(g.s, []int{9}), g.d, 2, at, 64, b)
		same(t, ok, true, "Check of the other")
		same(t, said, y, "what Check says of the other")
		same(t, len(a.Columns.Places)+len(b.Columns.Places), 8, "columns that are shown")
		l, m, ok := tree.Collide(g.s, a.Root, 4, a.Columns, b.Columns)
		same(t, ok, true, "Collide")
		if slices.Equal(elements(l, 29), elements(m, 29)) {
			t.Errorf("Collide tells of one list: %v, %v", l, m)
		}
		same(t, g.s.Hash(l), g.s.Hash(m), "the digests of what Collide tells")
	}
}

// alike gives two tables with one root.
func (g stage) alike(t *testing.T, r *rand.Rand) (one, other []int) {
	t.Helper()
	found := map[[4]int][]int{}
	for range 20000 {
		table := []int{r.Intn(g.p), r.Intn(g.p), r.Intn(g.p), r.Intn(g.p)}
		root, err := pledge.Commit(g.s, g.d, table)
		told(t, err, api.OK, "Commit")
		before, ok := found[[4]int(root)]
		if ok && !slices.Equal(before, table) {
			return before, table
		}
		found[[4]int(root)] = table
	}
	t.Fatalf("no two tables with one root are found")
	return nil, nil
}
