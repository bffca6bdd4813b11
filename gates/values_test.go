package gates_test

import (
	"fmt"
	"math"
	"math/bits"
	"math/rand"
	"slices"
	"testing"

	"attest/api"
	"attest/gates"
)

var ofTheDocument = api.Circuit{Wide: 1, Layers: [][]api.Gate{{{Kind: 0, A: 0, B: 1}, {Kind: 1, A: 0, B: 1}}}}

func TestTableOfTheDocument(t *testing.T) {
	g := stageOf(t, 97, 1, "1")
	v, err := gates.Values(g.f, ofTheDocument, []int{3, 5})
	told(t, err, api.OK, "Values")
	same(t, v, [][]int{{3, 5}, {8, 15}}, "Values")
	for _, c := range []struct {
		xs   []int
		want int
	}{{nil, 22}, {[]int{0}, 22}, {[]int{1}, 0}} {
		is, err := gates.Part(g.f, ofTheDocument, 0, []int{3, 5}, []int{2}, c.xs)
		told(t, err, api.OK, "Part with %v", c.xs)
		same(t, is, c.want, "Part with %v", c.xs)
	}
}

func TestJ1ValuesByHand(t *testing.T) {
	g := stageOf(t, 97, 2, "110")
	c := api.Circuit{Wide: 2, Layers: [][]api.Gate{
		{{Kind: 0, A: 3, B: 1}, {Kind: 1, A: 2, B: 2}},
		{{Kind: 1, A: 1, B: 0}, {Kind: 0, A: 1, B: 1}},
		{{Kind: 0, A: 0, B: 1}},
	}}
	for _, inputs := range [][]int{{1, 50, 12, 60}, {98, 50 - 97, 12 + 97*4, 60 - 97*3}} {
		v, err := gates.Values(g.f, c, inputs)
		told(t, err, api.OK, "Values")
		same(t, v, [][]int{{1, 50, 12, 60}, {13, 47}, {29, 94}, {26}}, "Values of %v", inputs)
	}
}

func TestJ1ValuesAreAsItIsSaid(t *testing.T) {
	r := rand.New(rand.NewSource(1))
	eachField(t, func(g stage) {
		for range 5 {
			c, inputs := g.circuit(r), g.inputs(r)
			got, err := gates.Values(g.f, c, inputs)
			told(t, err, api.OK, "%v: Values", g)
			same(t, got, valuesBy(g.p, c, inputs), "%v: Values of %v, %v", g, c, inputs)
		}
	})
}

// TestJ1GreatestCircuit: as many inputs, layers and gates as may be.
func TestJ1GreatestCircuit(t *testing.T) {
	r := rand.New(rand.NewSource(2))
	g := stageOf(t, 2013265921, 6, "66666666")
	c, inputs := g.circuit(r), g.inputs(r)
	got, err := gates.Values(g.f, c, inputs)
	told(t, err, api.OK, "Values")
	same(t, got, valuesBy(g.p, c, inputs), "Values of the greatest circuit")
}

// faulty asks of each call but Check that an error is told, and nothing else, and of Check that nothing is shown.
func (g stage) faulty(t *testing.T, c api.Circuit, inputs []int, want api.Errno, what string) {
	t.Helper()
	g.faultyInputs(t, c, inputs, want, what)
	for _, n := range []int{0, 1, 5} { // these errors are told ahead of all others
		for _, layer := range []int{0, -1, 9} {
			is, err := gates.Wire(g.f, c, layer, layer, make([]int, n), make([]int, n), nil)
			told(t, err, want, "%v: Wire %s", g, what)
			same(t, is, 0, "%v: Wire %s", g, what)
		}
		for _, outputs := range [][]int{nil, {1}, make([]int, n)} {
			g.refusesAny(t, c, outputs, api.Layered{}, what)
			g.refusesAny(t, c, outputs, api.Layered{Rounds: make([][][]int, len(c.Layers)), Lines: make([][]int, len(c.Layers))}, what)
		}
	}
}

// faultyInputs is faulty for the calls that are given inputs, and no Check.
func (g stage) faultyInputs(t *testing.T, c api.Circuit, inputs []int, want api.Errno, what string) {
	t.Helper()
	v, err := gates.Values(g.f, c, inputs)
	told(t, err, want, "%v: Values %s", g, what)
	same(t, len(v), 0, "%v: Values %s", g, what)
	o, err := gates.Make(g.s, c, inputs)
	told(t, err, want, "%v: Make %s", g, what)
	same(t, len(o.Rounds)+len(o.Lines), 0, "%v: Make %s", g, what)
	for _, n := range []int{0, 1, 99} { // these errors are told ahead of all others
		for _, layer := range []int{0, -1, 9} {
			is, err := gates.Part(g.f, c, layer, inputs, make([]int, n), make([]int, n))
			told(t, err, want, "%v: Part %s", g, what)
			same(t, is, 0, "%v: Part %s", g, what)
		}
	}
}

func TestJ1EachWide(t *testing.T) {
	g := stageOf(t, 97, 0, "0")
	layers := [][]api.Gate{{{Kind: 1}}}
	for wide := -70; wide < 140; wide++ {
		c := api.Circuit{Wide: wide, Layers: layers}
		if wide >= 0 && wide <= 6 {
			v, err := gates.Values(g.f, c, make([]int, 1<<wide))
			told(t, err, api.OK, "Values of Wide %d", wide)
			same(t, len(v[0]), 1<<wide, "Values of Wide %d", wide)
			continue
		}
		for _, n := range []int{0, 1, 64, 128} {
			g.faulty(t, c, make([]int, n), api.ErrSize, fmt.Sprintf("of Wide %d", wide))
		}
	}
	for _, wide := range []int{math.MinInt, math.MaxInt, 1 << 32, -1 << 32} {
		g.faulty(t, api.Circuit{Wide: wide, Layers: layers}, []int{1}, api.ErrSize, fmt.Sprintf("of Wide %d", wide))
	}
}

func TestJ1EachNumberOfLayers(t *testing.T) {
	g := stageOf(t, 97, 0, "0")
	for n := range 40 {
		c := api.Circuit{Layers: make([][]api.Gate, n)}
		for i := range c.Layers {
			c.Layers[i] = []api.Gate{{Kind: i % 2}}
		}
		if n >= 1 && n <= 8 {
			v, err := gates.Values(g.f, c, []int{1})
			told(t, err, api.OK, "Values of %d layers", n)
			same(t, len(v), n+1, "Values of %d layers", n)
			continue
		}
		g.faulty(t, c, []int{1}, api.ErrSize, fmt.Sprintf("of %d layers", n))
		g.faulty(t, c, nil, api.ErrSize, fmt.Sprintf("of %d layers", n))
	}
	g.faulty(t, api.Circuit{Layers: make([][]api.Gate, 1<<20)}, nil, api.ErrSize, "of very many layers")
}

// TestJ1EachNumberOfGates: whichever layer has them.
func TestJ1EachNumberOfGates(t *testing.T) {
	g := stageOf(t, 97, 0, "000")
	for layer := range 3 {
		for n := range 260 {
			c := g.circuit(rand.New(rand.NewSource(3)))
			c.Layers[layer] = make([]api.Gate, n)
			if n <= 64 && bits.OnesCount(uint(n)) == 1 {
				v, err := gates.Values(g.f, c, []int{1})
				told(t, err, api.OK, "Values of %d gates", n)
				same(t, len(v[layer+1]), n, "Values of %d gates", n)
				continue
			}
			g.faulty(t, c, []int{1}, api.ErrSize, fmt.Sprintf("of %d gates in layer %d", n, layer))
		}
	}
}

// TestJ1SizesAheadOfGates: ErrSize is told, though a gate of an earlier layer, or of the same, is none.
func TestJ1SizesAheadOfGates(t *testing.T) {
	g := stageOf(t, 97, 0, "00")
	none := api.Gate{Kind: 2, A: 1, B: -1}
	for _, c := range []api.Circuit{
		{Layers: [][]api.Gate{{none}, {}}},
		{Layers: [][]api.Gate{{none, none, none}}},
		{Wide: 7, Layers: [][]api.Gate{{none}}},
		{Wide: -1, Layers: [][]api.Gate{{none}}},
		{Layers: slices.Repeat([][]api.Gate{{none}}, 9)},
	} {
		g.faulty(t, c, []int{1}, api.ErrSize, "of a size that is none, and gates that are none")
	}
}

// TestJ1WrongGates: each of a gate's numbers, of each gate, is none: ErrRange is told ahead of a number of inputs.
func TestJ1WrongGates(t *testing.T) {
	r := rand.New(rand.NewSource(4))
	eachStage(t, func(g stage) {
		right := g.circuit(r)
		for layer, gs := range right.Layers {
			for i := range gs {
				for part := range 3 {
					bound := 1 << g.beneath(layer)
					if part == 0 {
						bound = 2
					}
					for _, n := range []int{-1, bound, bound + 1, bound + 64, math.MinInt, math.MaxInt, 1 << 32} {
						c := copiedCircuit(right)
						x := &c.Layers[layer][i]
						*[]*int{&x.Kind, &x.A, &x.B}[part] = n
						g.faultyInputs(t, c, g.inputs(r), api.ErrRange, fmt.Sprintf("of the gate %v", *x))
						if i == 0 {
							g.faulty(t, c, nil, api.ErrRange, fmt.Sprintf("of the gate %v", *x))
						}
					}
				}
			}
		}
	})
}

// TestJ1GatesLieOnWhatIsBeneath: the greatest number that may be is that of the list beneath, whatever the layer's own is.
func TestJ1GatesLieOnWhatIsBeneath(t *testing.T) {
	for wide := range 7 {
		for own := range 7 {
			g := stageOf(t, 97, wide, fmt.Sprint(own, 6-own))
			inputs := make([]int, 1<<wide)
			inputs[len(inputs)-1] = 3
			c := api.Circuit{Wide: wide, Layers: [][]api.Gate{
				make([]api.Gate, 1<<own), make([]api.Gate, 1<<(6-own)),
			}}
			c.Layers[0][1<<own-1] = api.Gate{Kind: 0, A: 1<<wide - 1, B: 1<<wide - 1}
			c.Layers[1][1<<(6-own)-1] = api.Gate{Kind: 1, A: 1<<own - 1, B: 1<<own - 1}
			v, err := gates.Values(g.f, c, inputs)
			told(t, err, api.OK, "%v: Values", g)
			same(t, v, valuesBy(97, c, inputs), "%v: Values", g)
			same(t, v[2][1<<(6-own)-1], 36, "%v: the last of Values", g)
		}
	}
}

func TestJ1WrongInputs(t *testing.T) {
	r := rand.New(rand.NewSource(5))
	for wide := range 7 {
		g := stageOf(t, 97, wide, "1")
		c := g.circuit(r)
		for n := range 140 {
			if n != 1<<wide {
				g.faultyInputs(t, c, make([]int, n), api.ErrSize, fmt.Sprintf("of %d inputs", n))
			}
		}
		is, err := gates.Wire(g.f, c, 0, 0, []int{1}, make([]int, wide), make([]int, wide))
		told(t, err, api.OK, "Wire")
		same(t, is, wireBy(97, c.Layers[0], 0, []int{1}, make([]int, wide), make([]int, wide)), "Wire")
	}
}
