package pledge_test

import (
	"fmt"
	"math"
	"math/bits"
	"math/rand"
	"slices"
	"testing"

	"attest/api"
	"attest/chain"
	"attest/domain"
	"attest/field"
	"attest/plain"
	"attest/pledge"
	"attest/sponge"
	"attest/tree"
)

// stage is what a table is held to on, and that by which a failure is told: its field and domain, over how many variables
// it is, and how many places are asked.
type stage struct {
	p, size, shift, v, asked int

	f *field.Field
	s *sponge.Sponge
	d *domain.Domain
}

func stageOf(t *testing.T, p, size, shift, v, asked int) stage {
	t.Helper()
	f, err := field.New(p)
	if err != nil {
		t.Fatalf("field.New(%d): %v", p, err)
	}
	s, err := sponge.New(f)
	if err != nil {
		t.Fatalf("sponge.New of p = %d: %v", p, err)
	}
	d, err := domain.New(f, size, shift)
	if err != nil {
		t.Fatalf("domain.New of p = %d, %d, %d: %v", p, size, shift, err)
	}
	return stage{p, size, shift, v, asked, f, s, d}
}

func (g stage) String() string {
	return fmt.Sprintf("p = %d, domain %d from %d, v = %d, asked = %d", g.p, g.size, g.shift, g.v, g.asked)
}

// some: with as few points as may be for each v, and with more; over few points, so that all are asked, and over many.
var some = [][5]int{
	{23, 2, 1, 0, 1}, {29, 4, 2, 1, 3}, {29, 4, -1, 2, 64}, {97, 2, 5, 0, 64}, {97, 8, 5, 0, 3}, {97, 4, 5, 1, 2},
	{97, 16, 1, 1, 5}, {97, 4, 7, 2, 5}, {97, 8, 5, 2, 3}, {97, 8, 5, 3, 4}, {97, 32, 44, 3, 64}, {97, 8, 3, 4, 1},
	{97, 32, 5, 4, 9}, {97, 16, 5, 5, 7}, {193, 64, 5, 5, 3}, {193, 16, 7, 6, 64}, {257, 32, 3, 7, 5}, {257, 256, 3, 8, 20},
	{12289, 64, math.MaxInt, 9, 4}, {12289, 64, 11, 10, 8}, {12289, 128, 7, 11, 2}, {12289, 128, math.MinInt, 12, 64},
	{2013265921, 8, 31, 4, 6}, {2013265921, 64, 31, 7, 33}, {2147483647, 2, math.MinInt, 0, 5},
}

func eachStage(t *testing.T, work func(g stage)) {
	t.Helper()
	for _, n := range some {
		work(stageOf(t, n[0], n[1], n[2], n[3], n[4]))
	}
}

func (g stage) chain() *chain.Chain { return chain.New(g.s, []int{g.v, 5}) }

func (g stage) table(r *rand.Rand) []int { return someList(r, g.p, 1<<g.v) }

func (g stage) point(r *rand.Rand) []int { return someList(r, g.p, g.v) }

// high and low are a and b, and tall and wide are 2^a and 2^b.
func (g stage) high() int { return g.v / 2 }
func (g stage) low() int  { return (g.v + 1) / 2 }
func (g stage) tall() int { return 1 << g.high() }
func (g stage) wide() int { return 1 << g.low() }

func same(t *testing.T, got, want any, what string, args ...any) {
	t.Helper()
	if g, w := fmt.Sprint(got), fmt.Sprint(want); g != w {
		t.Errorf("%s: got %s, want %s", fmt.Sprintf(what, args...), g, w)
	}
}

func told(t *testing.T, err error, want api.Errno, what string, args ...any) {
	t.Helper()
	if plain.Told(err) != want {
		t.Errorf("%s: got the error %v, want %v", fmt.Sprintf(what, args...), err, want)
	}
}

// someNumber draws one that is most often an element.
func someNumber(r *rand.Rand, p int) int {
	switch r.Intn(6) {
	case 0:
		return int(r.Uint64())
	case 1:
		return p * (r.Intn(5) - 2)
	case 2:
		return []int{0, 1, -1, math.MinInt, math.MaxInt}[r.Intn(5)]
	}
	return r.Intn(p)
}

func someList(r *rand.Rand, p, n int) []int {
	out := make([]int, n)
	for i := range out {
		out[i] = someNumber(r, p)
	}
	return out
}

func element(n, p int) int { return (n%p + p) % p }

func elements(l []int, p int) []int {
	out := make([]int, len(l))
	for i, n := range l {
		out[i] = element(n, p)
	}
	return out
}

func times(a, b, p int) int { return element(a, p) * element(b, p) % p }

func power(a, n, p int) int {
	out := 1
	for range n {
		out = times(out, a, p)
	}
	return out
}

func evalBy(p int, a []int, x int) int {
	out := 0
	for _, n := range slices.Backward(a) {
		out = element(times(out, x, p)+element(n, p), p)
	}
	return out
}

// weightBy is what a table that is 1 at a place, and 0 elsewhere, Extends to, as U1 says it.
func weightBy(p, place int, at []int) int {
	out := 1
	for j, n := range at {
		if place>>(len(at)-1-j)&1 == 1 {
			out = times(out, n, p)
		} else {
			out = times(out, 1-element(n, p), p)
		}
	}
	return out
}

// extendBy is what a table Extends to, as U1 says it.
func extendBy(p int, table, at []int) int {
	sum := 0
	for i, n := range table {
		sum = element(sum+times(n, weightBy(p, i, at), p), p)
	}
	return sum
}

// mixBy is Mix, as E2 says it.
func mixBy(p int, rows [][]int, r int) []int {
	out := make([]int, len(rows[0]))
	for i, row := range rows {
		for j, n := range row {
			out[j] = element(out[j]+times(n, power(r, i, p), p), p)
		}
	}
	return out
}

// rowsBy is a table in rows, as E1 says it.
func (g stage) rowsBy(table []int) (out [][]int) {
	for i := range g.tall() {
		out = append(out, elements(table[i<<g.low():(i+1)<<g.low()], g.p))
	}
	return out
}

// wordsBy is the rows of a table, made longer.
func (g stage) wordsBy(table []int) (out [][]int) {
	for _, row := range g.rowsBy(table) {
		var word []int
		for _, x := range g.d.Points() {
			word = append(word, evalBy(g.p, row, x))
		}
		out = append(out, word)
	}
	return out
}

func columnsBy(words [][]int) [][]int {
	out := make([][]int, len(words[0]))
	for _, word := range words {
		for j, n := range word {
			out[j] = append(out[j], n)
		}
	}
	return out
}

// forged is Open as E3 says it, but for what its parts change on the way.
type forged struct {
	word   func(i int, word []int) []int   // a row, made longer
	column func(j int, l []int) []int      // a column of the tree
	mixed  func(l []int) []int             // what is told for Mixed
	point  func(l []int) []int             // what is told for Point
	places func(places, all []int) []int   // the places that are shown
	shown  func(o api.Opening) api.Opening // what is shown
}

func (m forged) open(t *testing.T, g stage, c *chain.Chain, table, at []int) (o api.Pledge, is int) {
	t.Helper()
	words := g.wordsBy(table)
	for i, word := range words {
		if m.word != nil {
			words[i] = m.word(i, word)
		}
	}
	columns := columnsBy(words)
	for j, l := range columns {
		if m.column != nil {
			columns[j] = m.column(j, l)
		}
	}
	root, err := tree.Root(g.s, columns)
	told(t, err, api.OK, "Root")
	c.Take(root)
	c.Take(at)
	mixed, point := mixBy(g.p, g.rowsBy(table), c.Draw()), make([]int, g.wide())
	for i, row := range g.rowsBy(table) {
		for j, n := range row {
			point[j] = element(point[j]+times(n, weightBy(g.p, i, at[:g.high()]), g.p), g.p)
		}
	}
	if m.mixed != nil {
		mixed = m.mixed(mixed)
	}
	if m.point != nil {
		point = m.point(point)
	}
	c.Take(mixed)
	c.Take(point)
	var places, all []int
	for range g.asked {
		places = append(places, c.Place(g.size))
	}
	for j := range g.size {
		all = append(all, j)
	}
	if m.places != nil {
		places = m.places(places, all)
	}
	open, err := tree.Open(g.s, columns, places)
	told(t, err, api.OK, "Open")
	if m.shown != nil {
		open = m.shown(open)
	}
	return api.Pledge{Root: root, Mixed: mixed, Point: point, Columns: open}, extendBy(g.p, table, at)
}

// checkBy is Check as E4 says it.
func (g stage) checkBy(c *chain.Chain, at []int, o api.Pledge) (int, bool) {
	if g.v < 0 || g.v > 12 || len(at) != g.v || g.asked < 1 || g.asked > 64 || 2*g.wide() > g.size {
		return 0, false
	}
	if len(o.Root) != 4 || len(o.Mixed) != g.wide() || len(o.Point) != g.wide() {
		return 0, false
	}
	c.Take(o.Root)
	c.Take(at)
	r := c.Draw()
	c.Take(o.Mixed)
	c.Take(o.Point)
	drawn := map[int]int{}
	for range g.asked {
		drawn[c.Place(g.size)]++
	}
	if !tree.Check(g.s, o.Root, g.size, o.Columns) || len(o.Columns.Places) != len(drawn) {
		return 0, false
	}
	for i, j := range o.Columns.Places {
		l, x := o.Columns.Rows[i], g.d.Points()[j]
		if drawn[j] == 0 || len(l) != g.tall() || evalBy(g.p, o.Mixed, x) != evalBy(g.p, l, r) {
			return 0, false
		}
		if evalBy(g.p, o.Point, x) != extendBy(g.p, l, at[:g.high()]) {
			return 0, false
		}
	}
	return extendBy(g.p, o.Point, at[g.high():]), true
}

// opened is Open where nothing is wrong.
func (g stage) opened(t *testing.T, c *chain.Chain, table, at []int) (api.Pledge, int) {
	t.Helper()
	o, is, err := pledge.Open(g.s, c, g.d, table, at, g.asked)
	told(t, err, api.OK, "%v: Open", g)
	return o, is
}

// asks holds Check against checkBy, and gives what it answers.
func (g stage) asks(t *testing.T, at []int, o api.Pledge, what string) (int, bool) {
	t.Helper()
	is, ok := pledge.Check(g.s, g.chain(), g.d, g.v, at, g.asked, o)
	want, taken := g.checkBy(g.chain(), at, o)
	same(t, ok, taken, "%v: Check %s", g, what)
	same(t, is, want, "%v: what Check says %s", g, what)
	return is, ok
}

// refuses asks that it is not shown.
func (g stage) refuses(t *testing.T, at []int, o api.Pledge, what string) {
	t.Helper()
	if is, ok := g.asks(t, at, o, what); ok || is != 0 {
		t.Errorf("%v: Check %s: it is taken, or not 0: %d, %v", g, what, is, ok)
	}
}

// takes asks that it is shown.
func (g stage) takes(t *testing.T, at []int, o api.Pledge, want int, what string) {
	t.Helper()
	is, ok := g.asks(t, at, o, what)
	same(t, ok, true, "%v: Check %s: is it taken", g, what)
	same(t, is, want, "%v: Check %s: what it says", g, what)
}

func copied(o api.Pledge) api.Pledge {
	out := api.Pledge{Root: slices.Clone(o.Root), Mixed: slices.Clone(o.Mixed), Point: slices.Clone(o.Point)}
	out.Columns.Places = slices.Clone(o.Columns.Places)
	for _, l := range o.Columns.Rows {
		out.Columns.Rows = append(out.Columns.Rows, slices.Clone(l))
	}
	for _, l := range o.Columns.Nodes {
		out.Columns.Nodes = append(out.Columns.Nodes, slices.Clone(l))
	}
	return out
}

// lists gives each list of numbers that a pledge has, that of the places being the last.
func lists(o api.Pledge) [][]int {
	out := [][]int{o.Root, o.Mixed, o.Point}
	return append(append(append(out, o.Columns.Rows...), o.Columns.Nodes...), o.Columns.Places)
}

// isTable tells whether a list of so many is one.
func isTable(n int) bool { return n >= 1 && n <= 4096 && bits.OnesCount(uint(n)) == 1 }
