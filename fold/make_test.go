package fold_test

import (
	"math"
	"math/rand"
	"slices"
	"testing"

	"attest/api"
	"attest/chain"
	"attest/domain"
	"attest/fold"
	"attest/sponge"
	"attest/tree"
)

// stage is what a word is shown on: a sponge, a domain, a bound of the degree, and how many places are asked.
type stage struct {
	shape
	k, asked int
	s        *sponge.Sponge
	d        *domain.Domain
}

func stageOf(t *testing.T, s shape, k, asked int) stage {
	t.Helper()
	d := domainOf(t, s)
	h, err := sponge.New(d.Field())
	if err != nil {
		t.Fatalf("sponge.New of p = %d: %v", s.p, err)
	}
	return stage{s, k, asked, h, d}
}

// shown: over two points; of no round, with each k; of one and of more; with as few points as may be, and with more.
var shown = []struct {
	shape
	k, asked int
}{
	{shape{23, 2, 1}, 1, 1}, {shape{2147483647, 2, math.MinInt}, 1, 64}, {shape{97, 4, 5}, 2, 3}, {shape{97, 8, -1}, 4, 2},
	{shape{97, 32, 5}, 1, 3}, {shape{97, 32, 5}, 2, 2}, {shape{97, 32, 5}, 4, 64}, {shape{97, 32, 5}, 8, 3},
	{shape{97, 32, 44}, 16, 1}, {shape{97, 32, 1}, 16, 64}, {shape{97, 16, 5}, 8, 5}, {shape{193, 64, 7}, 32, 4},
	{shape{193, 64, 7}, 8, 64}, {shape{12289, 128, math.MaxInt}, 16, 7}, {shape{257, 256, 3}, 128, 20},
	{shape{2013265921, 64, 31}, 32, 9},
}

func eachStage(t *testing.T, work func(g stage)) {
	t.Helper()
	for _, c := range shown {
		work(stageOf(t, c.shape, c.k, c.asked))
	}
}

func (g stage) chain() *chain.Chain { return chain.New(g.s, []int{g.k, 5}) }

// codeword draws one of which half of the numbers are no elements.
func (g stage) codeword(r *rand.Rand) []int {
	out := g.d.Values(someList(r, g.p, g.k))
	for i := range out {
		if r.Intn(2) == 0 {
			out[i] += g.p * (r.Intn(9) - 4)
		}
	}
	return out
}

func (g stage) rounds() (n int) {
	for k := g.k; k > 4; k /= 2 {
		n++
	}
	return n
}

// forged is Make as O3 says it, but for what its parts change on the way.
type forged struct {
	word   func(round int, word []int) []int   // what a round's tree is made of
	row    func(round, i int, row []int) []int // a row of it
	last   func(last []int) []int              // what is told in the end
	opened func(round int, places []int) []int // the places that are shown
}

func (m forged) make(t *testing.T, g stage, c *chain.Chain, word []int) (o api.Folded, places []int) {
	t.Helper()
	d, trees := g.d, [][][]int{}
	for k := g.k; k > 4; k /= 2 {
		if m.word != nil {
			word = m.word(len(trees), slices.Clone(word))
		}
		var rows [][]int
		for i := range d.Size() / 2 {
			row := []int{word[i], word[i+d.Size()/2]}
			if m.row != nil {
				row = m.row(len(trees), i, row)
			}
			rows = append(rows, row)
		}
		root, err := tree.Root(g.s, rows)
		told(t, err, api.OK, "Root")
		c.Take(root)
		word = foldBy(g.p, d, word, c.Draw())
		trees, o.Roots, d = append(trees, rows), append(o.Roots, root), halfOf(t, d)
	}
	o.Last = polynomialBy(t, d, word)
	if m.last != nil {
		o.Last = m.last(o.Last)
	}
	c.Take(o.Last)
	for range g.asked {
		places = append(places, c.Place(g.size/2))
	}
	for i, rows := range trees {
		at := []int{}
		for _, q := range places {
			at = append(at, q%len(rows))
		}
		if m.opened != nil {
			at = m.opened(i, at)
		}
		open, err := tree.Open(g.s, rows, at)
		told(t, err, api.OK, "Open")
		o.Opens = append(o.Opens, open)
	}
	return o, places
}

// polynomialBy gives that of which a word is the values, without zeros at its end.
func polynomialBy(t *testing.T, d *domain.Domain, word []int) []int {
	t.Helper()
	out, err := d.Coefficients(word)
	told(t, err, api.OK, "Coefficients")
	for i, x := range d.Points() {
		same(t, evalBy(d.Field().P(), out, x), element(word[i], d.Field().P()), "Coefficients, at place %d", i)
	}
	for len(out) > 0 && out[len(out)-1] == 0 {
		out = out[:len(out)-1]
	}
	return out
}

func (g stage) made(t *testing.T, c *chain.Chain, word []int) (api.Folded, []int) {
	t.Helper()
	o, places, err := fold.Make(g.s, c, g.d, g.k, word, g.asked)
	told(t, err, api.OK, "%v, k = %d: Make", g.shape, g.k)
	return o, places
}

func TestO3MakeIsAsItIsSaid(t *testing.T) {
	r := rand.New(rand.NewSource(7))
	eachStage(t, func(g stage) {
		for range 3 {
			word := g.codeword(r)
			c, e := g.chain(), g.chain()
			o, places := g.made(t, c, word)
			want, at := forged{}.make(t, g, e, word)
			same(t, o, want, "%v, k = %d, asked = %d: Make", g.shape, g.k, g.asked)
			same(t, places, at, "%v, k = %d, asked = %d: places", g.shape, g.k, g.asked)
			same(t, c.Digest(), e.Digest(), "%v, k = %d, asked = %d: the chain behind Make", g.shape, g.k, g.asked)
			same(t, len(o.Roots), g.rounds(), "%v, k = %d: Roots", g.shape, g.k)
			same(t, len(o.Opens), g.rounds(), "%v, k = %d: Opens", g.shape, g.k)
		}
	})
}

// TestO3ByHand: one round, spelt out.
func TestO3ByHand(t *testing.T) {
	g := stageOf(t, shape{97, 16, 5}, 8, 2)
	a := []int{1, 2, 3, 4, 5, 6, 7, 8}
	word := g.d.Values(a)
	c := g.chain()
	o, places := g.made(t, c, word)
	e := g.chain()
	rows := [][]int{}
	for i := range 8 {
		rows = append(rows, []int{word[i], word[i+8]})
	}
	root, _ := tree.Root(g.s, rows)
	e.Take(root)
	r := e.Draw()
	last := elements([]int{1 + 2*r, 3 + 4*r, 5 + 6*r, 7 + 8*r}, 97)
	e.Take(last)
	at := []int{e.Place(8), e.Place(8)}
	open, _ := tree.Open(g.s, rows, at)
	same(t, o, api.Folded{Roots: [][]int{root}, Last: last, Opens: []api.Opening{open}}, "Make")
	same(t, places, at, "places")
	same(t, c.Draw(), e.Draw(), "Draw behind Make")
}

func TestO3LastHasNoZerosAtItsEnd(t *testing.T) {
	for _, k := range []int{1, 2, 4, 8, 16} {
		g := stageOf(t, shape{97, 32, 5}, k, 3)
		o, _ := g.made(t, g.chain(), make([]int, 32))
		same(t, len(o.Last), 0, "k = %d: Last of zeros", k)
		o, _ = g.made(t, g.chain(), slices.Repeat([]int{-90}, 32))
		same(t, o.Last, []int{7}, "k = %d: Last of a constant", k)
	}
	g := stageOf(t, shape{97, 32, 5}, 4, 3)
	o, _ := g.made(t, g.chain(), g.d.Values([]int{0, 9, 0, 97}))
	same(t, o.Last, []int{0, 9}, "Last where there is no round")
}

// TestO3PlacesAreThoseDrawn: in order, and as often as they come; what is opened has each once.
func TestO3PlacesAreThoseDrawn(t *testing.T) {
	g := stageOf(t, shape{97, 32, 5}, 16, 64)
	o, places := g.made(t, g.chain(), g.d.Values([]int{5, 6, 7}))
	same(t, len(places), 64, "how many places")
	if slices.IsSorted(places) {
		t.Errorf("places are ascending: %v", places)
	}
	for i, open := range o.Opens {
		rows := 16 >> i
		var want []int
		for at := range rows {
			if slices.ContainsFunc(places, func(q int) bool { return q%rows == at }) {
				want = append(want, at)
			}
		}
		same(t, open.Places, want, "Places of round %d", i)
	}
}

// refusedMake asks that an error is told, and nothing else, and that the chain stays as it is.
func (g stage) refusedMake(t *testing.T, word []int, want api.Errno, what string) {
	t.Helper()
	c := g.chain()
	o, places, err := fold.Make(g.s, c, g.d, g.k, word, g.asked)
	told(t, err, want, "%v, k = %d, asked = %d: Make %s", g.shape, g.k, g.asked, what)
	if len(o.Roots)+len(o.Last)+len(o.Opens)+len(places) != 0 {
		t.Errorf("%v, k = %d: Make %s: got %v, %v with an error", g.shape, g.k, what, o, places)
	}
	same(t, c.Digest(), g.chain().Digest(), "%v, k = %d: the chain behind Make %s", g.shape, g.k, what)
}

var wrongAsked = []int{0, -1, 65, math.MinInt, math.MaxInt}

func TestO3WrongSizes(t *testing.T) {
	full := make([]int, 64)
	for _, size := range []int{1, 2, 8, 32} {
		g := stageOf(t, shape{97, size, 5}, 1, 1)
		none := append([]int{1}, make([]int, size-1)...) // it is of the degree size - 1: ErrSize is told ahead of that
		for _, k := range []int{0, -1, -2, -4, 3, 5, 6, 7, 12, size, size + 1, 2 * size, 64, 1 << 62, math.MinInt, math.MaxInt} {
			g.k = k
			g.refusedMake(t, full[:size], api.ErrSize, "with a wrong k")
			g.refusedMake(t, none, api.ErrSize, "with a wrong k of no codeword")
		}
		g.k = 1
		for _, g.asked = range wrongAsked {
			g.refusedMake(t, full[:size], api.ErrSize, "with a wrong asked")
			g.refusedMake(t, none, api.ErrSize, "with a wrong asked of no codeword")
		}
		g.asked = 1
		for _, n := range []int{0, 1, size - 1, size + 1, size / 2, 2 * size} {
			if n != size || size == 1 {
				g.refusedMake(t, full[:n], api.ErrSize, "of a wrong length")
			}
		}
	}
}

func TestO3EachKThatMayBe(t *testing.T) {
	for _, size := range []int{2, 4, 16, 32} {
		for k := range 2 * size {
			g := stageOf(t, shape{97, size, 5}, k, 2)
			word := make([]int, size)
			if k > 0 && size%k == 0 && k < size {
				g.made(t, g.chain(), word)
				continue
			}
			g.refusedMake(t, word, api.ErrSize, "of zeros")
		}
	}
}

func TestO3NoCodeword(t *testing.T) {
	r := rand.New(rand.NewSource(8))
	eachStage(t, func(g stage) {
		for _, at := range []int{0, g.size/2 - 1, g.size / 2, g.size - 1} {
			word := g.codeword(r)
			word[at]++
			g.refusedMake(t, word, api.ErrRange, "of a word with one place wrong")
		}
		g.refusedMake(t, g.d.Values(append(make([]int, g.k), 1)), api.ErrRange, "of a word of the degree k")
		g.refusedMake(t, g.d.Values(append(make([]int, g.size-1), -1)), api.ErrRange, "of a word of the greatest degree")
	})
}

// TestO3MostPoints: half of them are the most rows that a tree has here.
func TestO3MostPoints(t *testing.T) {
	g := stageOf(t, shape{65537, api.MaxSize, 3}, 8, api.MaxAsk)
	o, places := g.made(t, g.chain(), g.d.Values([]int{1, 2, 3, 4, 5, 6, 7, 8}))
	same(t, len(o.Last), 4, "Last")
	at, ok := fold.Check(g.s, g.chain(), g.d, g.k, g.asked, o)
	same(t, ok, true, "Check")
	same(t, at, places, "places of Check")
}

// TestP2MakeLeavesTheWordAlone: it is neither written nor kept, nor is what stands behind it read.
func TestP2MakeLeavesTheWordAlone(t *testing.T) {
	g := stageOf(t, shape{97, 32, 5}, 16, 4)
	r := rand.New(rand.NewSource(9))
	word := g.codeword(r)
	memory := append(slices.Clone(word), someList(r, 97, 40)...)
	before := slices.Clone(memory)
	o, places := g.made(t, g.chain(), memory[:32])
	want, at := forged{}.make(t, g, g.chain(), word)
	same(t, memory, before, "the memory of the word")
	for i := range memory {
		memory[i] = -1
	}
	same(t, o, want, "Make, its word being written into")
	same(t, places, at, "places, the word being written into")
}

// lists gives each list of numbers that an answer has.
func lists(o api.Folded, places []int) (out [][]int) {
	out = append(slices.Clone(o.Roots), o.Last, places)
	for _, open := range o.Opens {
		out = append(append(append(out, open.Places), open.Rows...), open.Nodes...)
	}
	return out
}

// TestP2AnswersShareNothing: what is written into a list, or behind it, is seen in no other one.
func TestP2AnswersShareNothing(t *testing.T) {
	g := stageOf(t, shape{97, 32, 5}, 16, 4)
	o, places := g.made(t, g.chain(), g.d.Values([]int{1, 2, 3, 4, 5, 6, 7, 8, 9}))
	at, ok := fold.Check(g.s, g.chain(), g.d, g.k, g.asked, o)
	same(t, ok, true, "Check")
	all := append(lists(o, places), at)
	for i, l := range all {
		for j := range l[:cap(l)] {
			l[:cap(l)][j] = i
		}
	}
	for i, l := range all {
		for j, n := range l[:cap(l)] {
			if n != i {
				t.Errorf("list %d has at %d what was written into list %d", i, j, n)
			}
		}
	}
}
