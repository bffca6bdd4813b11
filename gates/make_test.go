package gates_test

import (
	"math/rand"
	"slices"
	"testing"

	"attest/api"
	"attest/chain"
	"attest/gates"
)

// TestJ4ByHand: all that the chain is told and draws, spelt out for the document's circuit.
func TestJ4ByHand(t *testing.T) {
	g := stageOf(t, 97, 1, "1")
	const p = 97
	k := chain.New(g.s, []int{97, 1, 1, 2, 0, 0, 1, 1, 0, 1, 8, 15})
	z := k.Draw()
	// At x and y the gates are (1 - z) (1 - x) y times the sum, and z (1 - x) y times the product, of 3 + 2 x and 3 + 2 y.
	is := func(x, y int) int {
		a, b := 3+2*x, 3+2*y
		return times(times(1-x, y, p), element(times(1-z, a+b, p)+times(z, times(a, b, p), p), p), p)
	}
	first := []int{is(0, 1), 0, element(is(2, 0)+is(2, 1), p)}
	k.Take(first)
	x := k.Draw()
	second := []int{0, is(x, 1), is(x, 2)}
	k.Take(second)
	y := k.Draw()
	line := []int{element(3+2*x, p), element(3+2*y, p)}
	k.Take(line)
	at := element(x+times(k.Draw(), y-x, p), p)
	o := g.made(t, ofTheDocument, []int{3, 5})
	same(t, o, api.Layered{Rounds: [][][]int{{first, second}}, Lines: [][]int{line}}, "Make")
	same(t, o, "{[[[48 0 9] [0 78 93]]] [[51 86]]}", "Make, in numbers")
	got, claim := g.takes(t, ofTheDocument, []int{8, 15}, o, "of what Make makes")
	same(t, got, []int{at}, "where Check claims something")
	same(t, claim, element(3+2*at, p), "what Check claims")
}

// TestJ4NoVariables: there is no round, and the line is one number; of two layers the last one is first.
func TestJ4NoVariables(t *testing.T) {
	g := stageOf(t, 97, 0, "00")
	c := api.Circuit{Layers: [][]api.Gate{{{Kind: 0}}, {{Kind: 1}}}}
	o := g.made(t, c, []int{5 - 97})
	same(t, o, "{[[] []] [[10] [5]]}", "Make")
	at, claim := g.takes(t, c, []int{3}, o, "of what Make makes")
	same(t, len(at), 0, "where Check claims something")
	same(t, claim, 5, "what Check claims")
}

func TestJ4MakeIsAsItIsSaid(t *testing.T) {
	r := rand.New(rand.NewSource(30))
	eachStage(t, func(g stage) {
		for range 4 {
			c, inputs := g.circuit(r), g.inputs(r)
			_, want := forged{}.make(g, c, inputs)
			same(t, g.made(t, c, inputs), want, "%v: Make of %v, %v", g, c, inputs)
		}
	})
}

// TestJ4GreatLayers: all the layers are as great as may be, or the inputs, or the outputs.
func TestJ4GreatLayers(t *testing.T) {
	r := rand.New(rand.NewSource(31))
	for _, n := range []struct {
		p, wide int
		tall    string
	}{{12289, 6, "6"}, {23, 5, "26"}, {2013265921, 0, "60"}} {
		g := stageOf(t, n.p, n.wide, n.tall)
		c, inputs := g.circuit(r), g.inputs(r)
		_, want := forged{}.make(g, c, inputs)
		same(t, g.made(t, c, inputs), want, "%v: Make", g)
	}
}

// TestJ4Sizes: as many rounds as x and y have variables, of three numbers, and a number more a line than there are beneath.
func TestJ4Sizes(t *testing.T) {
	r := rand.New(rand.NewSource(32))
	for _, tall := range []string{"0123456", "66666666", "3"} {
		g := stageOf(t, 193, 4, tall)
		o := g.made(t, g.circuit(r), g.inputs(r))
		same(t, len(o.Rounds), len(tall), "%v: Rounds", g)
		same(t, len(o.Lines), len(tall), "%v: Lines", g)
		for i, rounds := range o.Rounds {
			n := g.beneath(len(tall) - 1 - i)
			same(t, len(rounds), 2*n, "%v: Rounds of the layer %d from the last", g, i)
			same(t, len(o.Lines[i]), n+1, "%v: the Line of the layer %d from the last", g, i)
			for _, round := range rounds {
				same(t, len(round), 3, "%v: a round", g)
			}
		}
	}
}

// TestJ4NumbersAreElements: other numbers for the same elements make no difference.
func TestJ4NumbersAreElements(t *testing.T) {
	r := rand.New(rand.NewSource(33))
	eachStage(t, func(g stage) {
		c, inputs := g.circuit(r), g.inputs(r)
		same(t, g.made(t, c, inputs), g.made(t, c, elements(inputs, g.p)), "%v: Make", g)
	})
}

// filled writes a number of its own into each list, and behind it, and asks that it is seen in no other one.
func filled(t *testing.T, all [][]int) {
	t.Helper()
	for i, l := range all {
		for j := range l[:cap(l)] {
			l[:cap(l)][j] = i
		}
	}
	for i, l := range all {
		for j, n := range l[:cap(l)] {
			if n != i {
				t.Errorf("list %d has at %d what was written into list %d", i, j, n)
			}
		}
	}
}

func TestP2AnswersShareNothing(t *testing.T) {
	r := rand.New(rand.NewSource(34))
	eachStage(t, func(g stage) {
		c, inputs := g.circuit(r), g.inputs(r)
		values, err := gates.Values(g.f, c, inputs)
		told(t, err, api.OK, "%v: Values", g)
		o := g.made(t, c, inputs)
		outputs := slices.Clone(values[len(c.Layers)])
		at, _ := g.takes(t, c, outputs, o, "of what Make makes")
		again, _ := g.takes(t, c, outputs, o, "of what Make makes")
		more, err := gates.Values(g.f, c, elements(inputs, g.p))
		told(t, err, api.OK, "%v: Values", g)
		filled(t, slices.Concat(values, more, lists(o), lists(g.made(t, c, inputs)), [][]int{inputs, outputs, at, again}))
	})
}

// TestP2OuterListsShareNothing: neither do the lists of lists.
func TestP2OuterListsShareNothing(t *testing.T) {
	g := stageOf(t, 97, 1, "222")
	r := rand.New(rand.NewSource(35))
	o := g.made(t, g.circuit(r), g.inputs(r))
	want := copied(o)
	for _, rounds := range o.Rounds {
		_ = append(rounds, []int{1}, []int{2}, []int{3})
	}
	_ = append(o.Rounds, nil, nil)
	_ = append(o.Lines, nil, nil)
	same(t, o, want, "Make, its lists being added to")
}

// TestP2ListsAreLeftAlone: they are neither written nor kept, nor is what stands behind them read.
func TestP2ListsAreLeftAlone(t *testing.T) {
	r := rand.New(rand.NewSource(36))
	g := stageOf(t, 97, 3, "231")
	c, inputs := g.circuit(r), g.inputs(r)
	outputs, want := forged{}.make(g, c, inputs)
	values := valuesBy(g.p, c, inputs)
	z, x, y, xs := someList(r, 97, 2), someList(r, 97, 3), someList(r, 97, 3), someList(r, 97, 5)
	memory := slices.Concat(inputs, outputs, z, x, y, xs, someList(r, 97, 64))
	cut := func(from, n int) []int { return memory[from : from+n] }
	deep := api.Circuit{Wide: 3}
	for _, gs := range c.Layers { // what stands behind a layer is no gate
		deep.Layers = append(deep.Layers, append(slices.Clone(gs), api.Gate{Kind: -1}, api.Gate{A: -1})[:len(gs)])
	}
	before, circuit := slices.Clone(memory), copiedCircuit(deep)
	v, err := gates.Values(g.f, deep, cut(0, 8))
	told(t, err, api.OK, "Values")
	same(t, g.wire(t, deep, 0, 1, cut(10, 2), cut(12, 3), cut(15, 3)), wireBy(97, c.Layers[0], 1, z, x, y), "Wire")
	same(t, g.part(t, deep, 0, cut(0, 8), cut(10, 2), cut(18, 5)), partBy(97, c.Layers[0], values[0], 3, z, xs), "Part")
	o := g.made(t, deep, cut(0, 8))
	shown := copied(o)
	for _, l := range lists(shown) {
		_ = append(l, 5)
	}
	at, claim, ok := gates.Check(g.s, deep, cut(8, 2), shown)
	same(t, ok, true, "Check")
	same(t, memory, before, "the memory")
	same(t, deep, circuit, "the circuit")
	same(t, shown, o, "what Check is shown")
	place := slices.Clone(at)
	filled(t, append(lists(shown), memory))
	for _, gs := range deep.Layers {
		clear(gs)
	}
	same(t, v, values, "Values, its lists being written into")
	same(t, o, want, "Make, its lists being written into")
	same(t, at, place, "where Check claims something, its lists being written into")
	same(t, claim, extendBy(97, values[0], place), "what Check claims")
}
