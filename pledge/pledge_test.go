package pledge_test

import (
	"math"
	"math/rand"
	"slices"
	"testing"

	"attest/api"
	"attest/chain"
	"attest/pledge"
	"attest/sums"
	"attest/tree"
)

func TestTableOfTheDocument(t *testing.T) {
	g := stageOf(t, 97, 8, 5, 2, 3)
	mixed, err := pledge.Mix(g.f, [][]int{{1, 2}, {3, 4}}, 3)
	told(t, err, api.OK, "Mix")
	same(t, mixed, []int{10, 14}, "Mix")
	o, is := g.opened(t, g.chain(), []int{1, 2, 3, 4}, []int{2, 3})
	same(t, o.Point, []int{5, 6}, "Point")
	same(t, is, 8, "what it Extends to")
	is, ok := pledge.Check(g.s, g.chain(), g.d, 2, []int{2, 3}, 3, o)
	same(t, is, 8, "what Check says")
	same(t, ok, true, "Check")
}

func TestE1CommitByHand(t *testing.T) {
	g := stageOf(t, 97, 8, 5, 2, 1)
	var columns [][]int
	for _, x := range g.d.Points() {
		columns = append(columns, elements([]int{1 + 2*x, 3 + 4*x}, 97))
	}
	want, _ := tree.Root(g.s, columns)
	got, err := pledge.Commit(g.s, g.d, []int{1, 2, 3, 4})
	told(t, err, api.OK, "Commit")
	same(t, got, want, "Commit of 1 2 3 4")
	same(t, got, []int{42, 9, 68, 68}, "Commit of 1 2 3 4, in numbers")
	got, err = pledge.Commit(g.s, g.d, []int{98, 2 - 97, 3, 4 - 97*5})
	told(t, err, api.OK, "Commit")
	same(t, got, want, "Commit of other numbers for the same elements")
}

// TestE1RowsAreTheLonger: of 8 elements there are two rows, of 2 and of 1 there is one.
func TestE1RowsAreTheLonger(t *testing.T) {
	g := stageOf(t, 97, 8, 5, 3, 1)
	for _, c := range []struct {
		table  []int
		column func(x int) []int
	}{
		{[]int{1, 2, 3, 4, 5, 6, 7, 8}, func(x int) []int {
			return []int{1 + 2*x + 3*x*x + 4*x*x*x, 5 + 6*x + 7*x*x + 8*x*x*x}
		}},
		{[]int{5, 6}, func(x int) []int { return []int{5 + 6*x} }},
		{[]int{7}, func(int) []int { return []int{7} }},
	} {
		var columns [][]int
		for _, x := range g.d.Points() {
			columns = append(columns, c.column(x))
		}
		want, _ := tree.Root(g.s, columns)
		got, err := pledge.Commit(g.s, g.d, c.table)
		told(t, err, api.OK, "Commit of %v", c.table)
		same(t, got, want, "Commit of %v", c.table)
	}
}

func TestE1CommitIsAsItIsSaid(t *testing.T) {
	r := rand.New(rand.NewSource(1))
	eachStage(t, func(g stage) {
		table := g.table(r)
		want, err := tree.Root(g.s, columnsBy(g.wordsBy(table)))
		told(t, err, api.OK, "%v: Root", g)
		got, err := pledge.Commit(g.s, g.d, table)
		told(t, err, api.OK, "%v: Commit", g)
		same(t, got, want, "%v: Commit", g)
	})
}

// mayHold tells whether a list of n may be held to over so many points.
func mayHold(n, size int) bool {
	if !isTable(n) {
		return false
	}
	v := 0
	for 1<<v < n {
		v++
	}
	return 1<<(v-v/2) <= size/2
}

func TestE1EachSize(t *testing.T) {
	for _, size := range []int{1, 2, 4, 8, 16, 32} {
		g := stageOf(t, 97, size, 5, 0, 1)
		for n := range 300 {
			want := api.ErrSize
			if mayHold(n, size) {
				want = api.OK
			}
			root, err := pledge.Commit(g.s, g.d, make([]int, n))
			told(t, err, want, "Commit of %d over %d points", n, size)
			if (len(root) == 4) != (want == api.OK) || len(root) != 0 && len(root) != 4 {
				t.Errorf("Commit of %d over %d points: got %v", n, size, root)
			}
		}
	}
}

// TestE1GreatSizes: the greatest table, the least domain for it, and what is greater, or over less.
func TestE1GreatSizes(t *testing.T) {
	for _, c := range []struct {
		size, n int
		want    api.Errno
	}{
		{64, 4096, api.ErrSize}, {128, 4096, api.OK}, {256, 4096, api.OK}, {64, 2048, api.ErrSize}, {64, 1024, api.OK},
		{128, 4095, api.ErrSize}, {128, 4097, api.ErrSize}, {4096, 8192, api.ErrSize}, {4096, 1 << 14, api.ErrSize},
		{4096, 1 << 20, api.ErrSize}, {4096, 1 << 23, api.ErrSize},
	} {
		g := stageOf(t, 12289, c.size, 11, 0, 1)
		table := make([]int, c.n)
		_, err := pledge.Commit(g.s, g.d, table)
		told(t, err, c.want, "Commit of %d over %d points", c.n, c.size)
		if c.want != api.OK {
			g.refusedOpen(t, table, nil, c.want, "of a wrong size")
			g.refusedOpen(t, table, make([]int, 12), c.want, "of a wrong size")
		}
	}
}

// TestE1MostPoints: there are as many columns as a tree may have rows.
func TestE1MostPoints(t *testing.T) {
	g := stageOf(t, 65537, api.MaxSize, 3, 1, api.MaxAsk)
	root, err := pledge.Commit(g.s, g.d, []int{5, 6})
	told(t, err, api.OK, "Commit over %d points", api.MaxSize)
	o, is := g.opened(t, g.chain(), []int{5, 6}, []int{9})
	same(t, o.Root, root, "Root of Open")
	same(t, is, 14, "what it Extends to")
	is, ok := pledge.Check(g.s, g.chain(), g.d, 1, []int{9}, api.MaxAsk, o)
	same(t, is, 14, "what Check says")
	same(t, ok, true, "Check")
}

func TestE3OpenIsAsItIsSaid(t *testing.T) {
	r := rand.New(rand.NewSource(2))
	eachStage(t, func(g stage) {
		table, at := g.table(r), g.point(r)
		c, e := g.chain(), g.chain()
		o, is := g.opened(t, c, table, at)
		want, value := forged{}.open(t, g, e, table, at)
		same(t, o, want, "%v: Open", g)
		same(t, is, value, "%v: what it Extends to", g)
		same(t, c.Digest(), e.Digest(), "%v: the chain behind Open", g)
		root, err := pledge.Commit(g.s, g.d, table)
		told(t, err, api.OK, "%v: Commit", g)
		same(t, o.Root, root, "%v: Root", g)
		value, err = sums.Extend(g.f, table, at)
		told(t, err, api.OK, "%v: Extend", g)
		same(t, is, value, "%v: what it Extends to, by Extend", g)
	})
}

// TestE3ByHand: all that the chain is told and draws, spelt out.
func TestE3ByHand(t *testing.T) {
	g := stageOf(t, 97, 8, 5, 3, 2)
	table, at := []int{1, 2, 3, 4, 5, 6, 7, 8}, []int{2, 3, -4}
	c, e := g.chain(), g.chain()
	o, is := g.opened(t, c, table, at)
	var columns [][]int
	for _, x := range g.d.Points() {
		columns = append(columns, elements([]int{1 + 2*x + 3*x*x + 4*x*x*x, 5 + 6*x + 7*x*x + 8*x*x*x}, 97))
	}
	root, _ := tree.Root(g.s, columns)
	e.Take(root)
	e.Take([]int{2, 3, 93})
	r := e.Draw()
	mixed := elements([]int{1 + 5*r, 2 + 6*r, 3 + 7*r, 4 + 8*r}, 97)
	e.Take(mixed)
	point := []int{9, 10, 11, 12} // -1 times the first row, and 2 times the second
	e.Take(point)
	places := []int{e.Place(8), e.Place(8)}
	open, _ := tree.Open(g.s, columns, places)
	same(t, o, api.Pledge{Root: root, Mixed: mixed, Point: point, Columns: open}, "Open")
	// (1 - 3) (1 + 4), (1 - 3) (-4), 3 (1 + 4), 3 (-4)
	same(t, is, element(-10*9+8*10+15*11-12*12, 97), "what it Extends to")
	same(t, c.Draw(), e.Draw(), "Draw behind Open")
}

// TestE3AtAPlaceOfTheTable: there it is what stands there, and Point is a row.
func TestE3AtAPlaceOfTheTable(t *testing.T) {
	r := rand.New(rand.NewSource(3))
	for _, v := range []int{0, 1, 2, 3, 4} {
		g := stageOf(t, 97, 8, 5, v, 3)
		table := g.table(r)
		for i, n := range table {
			at := make([]int, v)
			for j := range at {
				at[j] = i >> (v - 1 - j) & 1
			}
			o, is := g.opened(t, g.chain(), table, at)
			same(t, is, element(n, 97), "%v: at the place %d", g, i)
			same(t, o.Point, g.rowsBy(table)[i/g.wide()], "%v: Point at the place %d", g, i)
		}
	}
}

// TestE3PlacesOnce: they are ascending, each once, however often they are drawn.
func TestE3PlacesOnce(t *testing.T) {
	g := stageOf(t, 97, 8, 5, 3, 64)
	o, _ := g.opened(t, g.chain(), []int{1, 2, 3, 4, 5, 6, 7, 8}, []int{1, 2, 3})
	same(t, o.Columns.Places, []int{0, 1, 2, 3, 4, 5, 6, 7}, "Places")
	same(t, len(o.Columns.Nodes), 0, "Nodes, as all is shown")
}

// refusedOpen asks that an error is told, and nothing else, and that the chain stays as it is.
func (g stage) refusedOpen(t *testing.T, table, at []int, want api.Errno, what string) {
	t.Helper()
	c := g.chain()
	o, is, err := pledge.Open(g.s, c, g.d, table, at, g.asked)
	told(t, err, want, "%v: Open %s", g, what)
	if n := len(slices.Concat(lists(o)...)) + len(o.Columns.Rows) + len(o.Columns.Nodes) + is; n != 0 {
		t.Errorf("%v: Open %s: got %v, %d with an error", g, what, o, is)
	}
	same(t, c.Digest(), g.chain().Digest(), "%v: the chain behind Open %s", g, what)
}

var wrongAsked = []int{0, -1, 65, 128, math.MinInt, math.MaxInt}

func TestE3WrongSizes(t *testing.T) {
	for _, size := range []int{1, 2, 8, 32} {
		for _, asked := range []int{1, 64, 0, 65} { // ErrSize is told ahead of ErrRange
			g := stageOf(t, 97, size, 5, 0, asked)
			for n := range 70 {
				for k := range 9 {
					if !mayHold(n, size) || 1<<k != n {
						g.refusedOpen(t, make([]int, n), make([]int, k), api.ErrSize, "of a wrong size")
					}
				}
			}
		}
	}
}

func TestE3WrongAsked(t *testing.T) {
	for v := range 5 {
		for _, asked := range wrongAsked {
			g := stageOf(t, 97, 8, 5, v, asked)
			g.refusedOpen(t, make([]int, 1<<v), make([]int, v), api.ErrRange, "with a wrong asked")
		}
	}
}

func TestE3EachAsked(t *testing.T) {
	for asked := 1; asked <= api.MaxAsk; asked++ {
		g := stageOf(t, 97, 8, 5, 2, asked)
		o, _ := g.opened(t, g.chain(), []int{1, 2, 3, 4}, []int{2, 3})
		g.takes(t, []int{2, 3}, o, 8, "of what Open tells")
	}
}

// TestE3TheChainCounts: on another chain another r is drawn, and other places.
func TestE3TheChainCounts(t *testing.T) {
	g := stageOf(t, 2013265921, 64, 31, 4, 5)
	r := rand.New(rand.NewSource(4))
	table, at := g.table(r), g.point(r)
	one, x := g.opened(t, chain.New(g.s, nil), table, at)
	other, y := g.opened(t, chain.New(g.s, []int{1}), table, at)
	same(t, one.Root, other.Root, "Root")
	same(t, one.Point, other.Point, "Point")
	same(t, x, y, "what it Extends to")
	if slices.Equal(one.Mixed, other.Mixed) || slices.Equal(one.Columns.Places, other.Columns.Places) {
		t.Errorf("two chains draw the same: %v, %v", one, other)
	}
}

// TestP2ListsAreLeftAlone: they are neither written nor kept, nor is what stands behind them read.
func TestP2ListsAreLeftAlone(t *testing.T) {
	g := stageOf(t, 97, 32, 5, 5, 4)
	r := rand.New(rand.NewSource(5))
	table, at := g.table(r), g.point(r)
	want, value := forged{}.open(t, g, g.chain(), table, at)
	memory := slices.Concat(table, at, someList(r, 97, 64))
	before := slices.Clone(memory)
	root, err := pledge.Commit(g.s, g.d, memory[:32])
	told(t, err, api.OK, "Commit")
	o, is := g.opened(t, g.chain(), memory[:32], memory[32:37])
	g.takes(t, memory[32:37], o, value, "of what Open tells")
	same(t, memory, before, "the memory")
	for i := range memory {
		memory[i] = -1
	}
	same(t, o, want, "Open, its lists being written into")
	same(t, is, value, "what it Extends to")
	same(t, root, want.Root, "Commit, its list being written into")
}

// TestP2AnswersShareNothing: what is written into a list, or behind it, is seen in no other one.
func TestP2AnswersShareNothing(t *testing.T) {
	g := stageOf(t, 97, 32, 5, 5, 4)
	r := rand.New(rand.NewSource(6))
	table, at := g.table(r), g.point(r)
	root, err := pledge.Commit(g.s, g.d, table)
	told(t, err, api.OK, "Commit")
	mixed, err := pledge.Mix(g.f, [][]int{table, table}, 0)
	told(t, err, api.OK, "Mix")
	o, _ := g.opened(t, g.chain(), table, at)
	all := append(lists(o), root, mixed, table, at)
	for i, l := range all {
		for j := range l[:cap(l)] {
			l[:cap(l)][j] = i
		}
	}
	for i, l := range all {
		for j, n := range l[:cap(l)] {
			if n != i {
				t.Errorf("list %d has at %d what was written into list %d", i, j, n)
			}
		}
	}
}
