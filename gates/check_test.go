package gates_test

import (
	"fmt"
	"math"
	"math/rand"
	"slices"
	"testing"

	"attest/api"
	"attest/gates"
	"attest/sums"
)

func TestJ6CheckTakesWhatMakeMakes(t *testing.T) {
	r := rand.New(rand.NewSource(40))
	work := func(g stage) {
		for range 4 {
			c, inputs := g.circuit(r), g.inputs(r)
			values, err := gates.Values(g.f, c, inputs)
			told(t, err, api.OK, "%v: Values", g)
			at, claim := g.takes(t, c, values[len(c.Layers)], g.made(t, c, inputs), "of what Make makes")
			same(t, len(at), g.wide, "%v: elements of where Check claims something", g)
			is, err := sums.Extend(g.f, inputs, at)
			told(t, err, api.OK, "%v: Extend", g)
			same(t, claim, is, "%v: what Check claims", g)
		}
	}
	eachStage(t, work)
	for _, tall := range []string{"66666666", "0606", "654321", "6"} {
		work(stageOf(t, 23, 6, tall))
		work(stageOf(t, 2147483647, 5, tall))
	}
}

// TestJ5NumbersAreElements: what differs by multiples of the prime makes no difference.
func TestJ5NumbersAreElements(t *testing.T) {
	r := rand.New(rand.NewSource(41))
	eachStage(t, func(g stage) {
		c, inputs := g.circuit(r), g.inputs(r)
		outputs, o := forged{}.make(g, c, inputs)
		at, claim := g.takes(t, c, outputs, o, "of what Make makes")
		for _, move := range []func(n int) int{
			func(n int) int { return n + g.p*(r.Intn(9)-4) },
			func(n int) int { return n + (math.MaxInt-n)/g.p*g.p },
			func(n int) int { return n - (math.MaxInt-n)/g.p*g.p },
		} {
			moved, other := copied(o), slices.Clone(outputs)
			for _, l := range append(lists(moved), other) {
				for j, n := range l {
					l[j] = move(n)
				}
			}
			place, is := g.takes(t, c, other, moved, "of other numbers for the same elements")
			same(t, place, at, "%v: where Check claims something", g)
			same(t, is, claim, "%v: what Check claims", g)
		}
	})
}

// TestJ5EachNumberIsLookedAt: no number may be changed, but for a line's that are behind its ends: these make a difference
// to what is claimed beneath alone.
func TestJ5EachNumberIsLookedAt(t *testing.T) {
	r := rand.New(rand.NewSource(42))
	for _, tall := range []string{"1", "2", "0", "321", "0303", "22"} {
		g := stageOf(t, 2013265921, 3, tall)
		c, inputs := g.circuit(r), g.inputs(r)
		outputs, o := forged{}.make(g, c, inputs)
		_, claim := g.takes(t, c, outputs, o, "of what Make makes")
		for i, l := range lists(o) {
			for j := range l {
				wrong := copied(o)
				lists(wrong)[i][j]++
				if i == len(lists(o))-1 && j > 1 {
					_, is := g.takes(t, c, outputs, wrong, "of the last line's end")
					if is == claim {
						t.Errorf("%v: a line that is not so claims the same", g)
					}
					continue
				}
				g.refuses(t, c, outputs, wrong, fmt.Sprintf("of a number that is one more: %d of list %d", j, i))
			}
		}
		for i := range outputs {
			wrong := slices.Clone(outputs)
			wrong[i]++
			g.refuses(t, c, wrong, o, "of another output")
		}
	}
}

// TestJ5WrongSizes: no list may have a number more, or fewer, nor may there be a list more, or fewer.
func TestJ5WrongSizes(t *testing.T) {
	r := rand.New(rand.NewSource(43))
	eachStage(t, func(g stage) {
		c, inputs := g.circuit(r), g.inputs(r)
		outputs, o := forged{}.make(g, c, inputs)
		all := func(o api.Layered) (out []*[]int) {
			for i := range o.Rounds {
				for j := range o.Rounds[i] {
					out = append(out, &o.Rounds[i][j])
				}
			}
			for i := range o.Lines {
				out = append(out, &o.Lines[i])
			}
			return out
		}
		for i, l := range all(o) {
			for _, m := range [][]int{nil, (*l)[:len(*l)-1], append(slices.Clone(*l), 0), slices.Concat(*l, *l)} {
				wrong := copied(o)
				*all(wrong)[i] = m
				g.refuses(t, c, outputs, wrong, "of a list of another length")
			}
		}
		for i, rounds := range o.Rounds {
			for _, m := range [][][]int{append(slices.Clone(rounds), []int{0, 0, 0}), rounds[:max(0, len(rounds)-1)], nil} {
				if len(m) != len(rounds) {
					wrong := copied(o)
					wrong.Rounds[i] = m
					g.refuses(t, c, outputs, wrong, "of another number of rounds")
				}
			}
		}
		for _, wrong := range []api.Layered{
			{}, {Rounds: o.Rounds}, {Lines: o.Lines},
			{Rounds: o.Rounds[1:], Lines: o.Lines[1:]},
			{Rounds: o.Rounds[:len(o.Rounds)-1], Lines: o.Lines},
			{Rounds: o.Rounds, Lines: o.Lines[:len(o.Lines)-1]},
			{Rounds: append(slices.Clone(o.Rounds), nil), Lines: o.Lines},
			{Rounds: o.Rounds, Lines: append(slices.Clone(o.Lines), nil)},
			{Rounds: append(slices.Clone(o.Rounds), nil), Lines: append(slices.Clone(o.Lines), nil)},
			{Rounds: append(slices.Clone(o.Rounds), nil), Lines: append(slices.Clone(o.Lines), []int{0})},
		} {
			g.refuses(t, c, outputs, wrong, "of another number of layers")
		}
		for n := range 70 {
			if n != len(outputs) {
				g.refuses(t, c, make([]int, n), o, "of another number of outputs")
			}
		}
	})
}

// TestJ5AnotherCircuit: what was made of one shows nothing of another, though all its sizes are the same.
func TestJ5AnotherCircuit(t *testing.T) {
	r := rand.New(rand.NewSource(44))
	g := stageOf(t, 2013265921, 2, "22")
	c, inputs := g.circuit(r), g.inputs(r)
	outputs, o := forged{}.make(g, c, inputs)
	for layer, gs := range c.Layers {
		for i := range gs {
			for _, change := range []func(x *api.Gate){
				func(x *api.Gate) { x.Kind = 1 - x.Kind },
				func(x *api.Gate) { x.A = (x.A + 1) % 4 },
				func(x *api.Gate) { x.B = (x.B + 1) % 4 },
			} {
				other := copiedCircuit(c)
				change(&other.Layers[layer][i])
				g.refuses(t, other, outputs, o, "of another gate")
			}
		}
	}
	for _, p := range []int{97, 12289} {
		other := stageOf(t, p, 2, "22")
		other.refuses(t, c, outputs, o, "over another field")
	}
}

// TestJ5TheLabelCounts: two gates that have the same A and B, or come to the same, still draw what hangs on each.
func TestJ5TheLabelCounts(t *testing.T) {
	g := stageOf(t, 2013265921, 1, "1")
	c := api.Circuit{Wide: 1, Layers: [][]api.Gate{{{Kind: 0, A: 0, B: 0}, {Kind: 1, A: 0, B: 0}}}}
	other := api.Circuit{Wide: 1, Layers: [][]api.Gate{{{Kind: 1, A: 0, B: 0}, {Kind: 0, A: 0, B: 0}}}}
	inputs, outputs := []int{2, 7}, []int{4, 4} // 2 + 2 and 2 * 2
	for _, one := range []api.Circuit{c, other} {
		_, o := forged{}.make(g, one, inputs)
		g.takes(t, one, outputs, o, "of its own circuit")
		for _, two := range []api.Circuit{c, other} {
			if one.Layers[0][0] != two.Layers[0][0] {
				g.refuses(t, two, outputs, o, "of another circuit that comes to the same")
			}
		}
	}
}

func TestJ5NoCircuit(t *testing.T) {
	g := stageOf(t, 97, 1, "1")
	outputs, o := forged{}.make(g, ofTheDocument, []int{3, 5})
	gs := ofTheDocument.Layers[0]
	for _, c := range []api.Circuit{
		{}, {Wide: 1}, {Wide: -1, Layers: ofTheDocument.Layers}, {Wide: 7, Layers: ofTheDocument.Layers}, {Wide: 64, Layers: ofTheDocument.Layers},
		{Wide: 1, Layers: [][]api.Gate{nil}}, {Wide: 1, Layers: [][]api.Gate{{gs[0], gs[1], gs[1]}}},
		{Wide: 1, Layers: [][]api.Gate{{gs[0], {Kind: 2, A: 0, B: 1}}}}, {Wide: 1, Layers: [][]api.Gate{{gs[0], {Kind: 1, A: 2, B: 1}}}},
		{Wide: 1, Layers: [][]api.Gate{{gs[0], {Kind: 1, A: 0, B: -1}}}}, {Wide: 0, Layers: ofTheDocument.Layers},
		{Wide: 1, Layers: slices.Repeat(ofTheDocument.Layers, 9)},
	} {
		g.refusesAny(t, c, outputs, o, fmt.Sprintf("of %v", c))
		g.refusesAny(t, c, nil, api.Layered{}, fmt.Sprintf("of %v, and nothing", c))
		n := len(c.Layers)
		g.refusesAny(t, c, outputs, api.Layered{Rounds: slices.Repeat(o.Rounds, n), Lines: slices.Repeat(o.Lines, n)}, fmt.Sprintf("of %v", c))
	}
}

// liar claims other outputs, and yet tells in each round what has the sum that is claimed, and on each line what fits in
// the end; it has the only way out of which J5 speaks: the inputs are not looked at.
func (g stage) liar(r *rand.Rand, c api.Circuit, outputs []int) (m forged) {
	m.outputs = func([]int) []int { return outputs }
	m.round = func(_, _, claim int) []int {
		a := r.Intn(g.p)
		return []int{a, element(claim-a, g.p), someNumber(r, g.p)}
	}
	m.line = func(layer, claim int, z, x, y, l []int) []int {
		gs := c.Layers[layer]
		sum, product := wireBy(g.p, gs, 0, z, x, y), wireBy(g.p, gs, 1, z, x, y)
		out := someList(r, g.p, len(l))
		for range 50 {
			if len(l) == 1 {
				out[0] = r.Intn(g.p)
				if endBy(g.p, gs, z, x, y, out[0], out[0]) == claim {
					break
				}
				continue
			}
			b := r.Intn(g.p)
			if by := element(sum+times(product, b, g.p), g.p); by != 0 {
				out[0], out[1] = times(element(claim-times(sum, b, g.p), g.p), inverse(by, g.p), g.p), b
				break
			}
		}
		return out
	}
	return m
}

// TestJ5InputsAreNotLookedAt: what hangs together is taken, whatever is claimed of the outputs; what it then claims of the
// inputs is what the line says.
func TestJ5InputsAreNotLookedAt(t *testing.T) {
	r := rand.New(rand.NewSource(45))
	eachStage(t, func(g stage) {
		taken := 0
		for range 10 {
			c, outputs := g.circuit(r), someList(r, g.p, 1<<g.own(len(g.tall)-1))
			_, o := g.liar(r, c, outputs).make(g, c, g.inputs(r))
			if _, _, ok := g.asks(t, c, outputs, o, "of what hangs together"); ok {
				taken++
			}
		}
		if g.wide > 0 && len(g.tall) < 3 && g.tall != "01" && taken == 0 {
			t.Errorf("%v: nothing that hangs together is taken", g)
		}
	})
}

// TestJ5HangsTogetherOfNoCircuit: of what is none nothing is shown, though all numbers are as they would be of one.
func TestJ5HangsTogetherOfNoCircuit(t *testing.T) {
	r := rand.New(rand.NewSource(51))
	for _, part := range []func(x *api.Gate){
		func(x *api.Gate) {},
		func(x *api.Gate) { x.Kind = 2 },
		func(x *api.Gate) { x.Kind = -1 },
		func(x *api.Gate) { x.A += 4 },
		func(x *api.Gate) { x.B += 4 },
		func(x *api.Gate) { x.A -= 4 },
		func(x *api.Gate) { x.B -= 64 },
	} {
		for layer := range 2 {
			g := stageOf(t, 2013265921, 2, "22")
			right, outputs := g.circuit(r), someList(r, g.p, 4)
			c := copiedCircuit(right)
			part(&c.Layers[layer][r.Intn(4)])
			m := g.liar(r, c, outputs)
			m.named = &c
			_, o := m.make(g, right, g.inputs(r))
			_, _, ok := g.checkBy(c, outputs, o)
			same(t, ok, true, "does it hang together")
			if fmt.Sprint(c) == fmt.Sprint(right) {
				g.takes(t, c, outputs, o, "of a circuit")
			} else {
				g.refusesAny(t, c, outputs, o, fmt.Sprintf("of %v", c))
			}
		}
	}
}

// TestJ5HangsTogetherTooGreat: so it is with more inputs, layers or gates than may be.
func TestJ5HangsTogetherTooGreat(t *testing.T) {
	r := rand.New(rand.NewSource(52))
	for _, n := range []struct {
		wide int
		tall string
		may  bool
	}{
		{6, "1", true}, {7, "1", false}, {1, "6", true}, {1, "7", false}, {1, "61", true}, {1, "71", false},
		{1, "11111111", true}, {1, "111111111", false},
	} {
		g := stageOf(t, 2013265921, n.wide, n.tall)
		c, outputs := g.circuit(r), someList(r, g.p, 1<<g.own(len(n.tall)-1))
		_, o := g.liar(r, c, outputs).make(g, c, g.inputs(r))
		_, _, ok := g.checkBy(c, outputs, o)
		same(t, ok, true, "%v: does it hang together", g)
		if n.may {
			g.takes(t, c, outputs, o, "of a circuit")
		} else {
			g.refusesAny(t, c, outputs, o, "of what is too great")
		}
	}
}

// TestJ5EachSumIsLookedAt: all hangs together but for the sum of one round, or the end of one line, of which the chain was
// told, and behind which all hangs together again.
func TestJ5EachSumIsLookedAt(t *testing.T) {
	r := rand.New(rand.NewSource(46))
	for _, n := range []struct {
		wide int
		tall string
	}{{3, "2"}, {1, "1"}, {2, "12"}, {2, "213"}} {
		g := stageOf(t, 2013265921, n.wide, n.tall)
		outputs := someList(r, g.p, 1<<g.own(len(n.tall)-1))
		for layer := range n.tall {
			for i := range 2*g.beneath(layer) + 2 {
				c, inputs := g.circuit(r), g.inputs(r)
				m := g.liar(r, c, outputs)
				_, o := m.make(g, c, inputs)
				g.takes(t, c, outputs, o, "of what hangs together")
				round, line := m.round, m.line
				m.round = func(l, k, claim int) []int {
					out := round(l, k, claim)
					if l == layer && k == i {
						out[k%2]++
					}
					return out
				}
				m.line = func(l, claim int, z, x, y, list []int) []int {
					out := line(l, claim, z, x, y, list)
					if l == layer && i >= 2*g.beneath(l) {
						out[i%2]++
					}
					return out
				}
				_, o = m.make(g, c, inputs)
				g.refuses(t, c, outputs, o, fmt.Sprintf("with a wrong sum in round %d of layer %d", i, layer))
			}
		}
	}
}

// TestJ5OfAnything: over a small field much is taken that is not so; Check takes just what J5 says.
func TestJ5OfAnything(t *testing.T) {
	r := rand.New(rand.NewSource(47))
	taken := 0
	for range 20000 {
		g := stageOf(t, []int{23, 29}[r.Intn(2)], r.Intn(2), []string{"0", "1", "00", "10", "01"}[r.Intn(5)])
		c := g.circuit(r)
		outputs := someList(r, g.p, 1<<g.own(len(g.tall)-1))
		var o api.Layered
		for i := range c.Layers {
			n := g.beneath(len(c.Layers) - 1 - i)
			var rounds [][]int
			for range 2 * n {
				rounds = append(rounds, someList(r, g.p, 3))
			}
			o.Rounds, o.Lines = append(o.Rounds, rounds), append(o.Lines, someList(r, g.p, n+1))
		}
		if _, _, ok := g.asks(t, c, outputs, o, "of anything"); ok {
			taken++
		}
	}
	if taken == 0 {
		t.Error("nothing was taken")
	}
}

// TestJ6FirstRound: a wrong claim of a layer, whatever three numbers are told that have its sum: at most 2 elements hide it.
func TestJ6FirstRound(t *testing.T) {
	r := rand.New(rand.NewSource(48))
	most := 0
	for _, p := range []int{23, 29, 97} {
		g := stageOf(t, p, 2, "213")
		for range 60 {
			c, inputs, layer := g.circuit(r), g.inputs(r), r.Intn(3)
			z := someList(r, p, g.own(layer))
			var is []int
			for x := range p {
				is = append(is, g.part(t, c, layer, inputs, z, []int{x}))
			}
			wrong := element(is[0]+is[1]+1+r.Intn(p-1), p)
			round := []int{r.Intn(p), 0, r.Intn(p)}
			if r.Intn(2) == 0 { // what meets the right polynomial at two elements, if it can
				x, y := 2+r.Intn(p-2), r.Intn(p)
				if x == y || element(x*y+(1-x)*(1-y), p) == 0 {
					continue
				}
				by := times(wrong-is[0]-is[1], inverse(x*y+(1-x)*(1-y), p), p)
				for v := range 3 {
					round[v] = element(is[v]+times(by, times(v-x, v-y, p), p), p)
				}
			}
			round[1] = element(wrong-round[0], p)
			hidden := 0
			for x := range p {
				if throughBy(p, round, x) == is[x] {
					hidden++
				}
			}
			if hidden > 2 {
				t.Errorf("%v: %d elements hide a wrong claim of %v, layer %d, at %v", g, hidden, c, layer, z)
			}
			most = max(most, hidden)
		}
	}
	same(t, most, 2, "the most elements that hide a wrong claim")
}

// TestJ6Line: one that is not so is hidden by at most as many elements as the layer has variables.
func TestJ6Line(t *testing.T) {
	r := rand.New(rand.NewSource(49))
	const p = 29
	for n := range 7 {
		g := stageOf(t, p, 2, fmt.Sprint(n))
		for range 20 {
			c, inputs := g.circuit(r), g.inputs(r)
			x, y := elements(someList(r, p, n), p), elements(someList(r, p, n), p)
			var is []int // what the layer's Values Extend to, for each t
			for v := range p {
				is = append(is, g.part(t, c, 0, inputs, betweenBy(p, x, y, v), nil))
			}
			line := slices.Clone(is[:n+1])
			same(t, throughBy(p, line, p-1), is[p-1], "%v: what the line is at the last t", g)
			line[r.Intn(n+1)] += 1 + r.Intn(p-1)
			hidden := 0
			for v := range p {
				if throughBy(p, line, v) == is[v] {
					hidden++
				}
			}
			if hidden > n {
				t.Errorf("%v: %d elements hide a line that is not so", g, hidden)
			}
		}
	}
}

// TestJ6WrongOutputsAreSeen: who claims other outputs, and tells else what is so, or what at least has the first sum, is
// refused, or claims of the inputs what they do not Extend to.
func TestJ6WrongOutputsAreSeen(t *testing.T) {
	r := rand.New(rand.NewSource(50))
	for _, tall := range []string{"1", "22", "131", "02"} {
		g := stageOf(t, 2013265921, 2, tall)
		for range 20 {
			c, inputs := g.circuit(r), g.inputs(r)
			m := forged{outputs: func(l []int) []int {
				l = slices.Clone(l)
				l[r.Intn(len(l))]++
				return l
			}}
			outputs, o := m.make(g, c, inputs)
			g.refuses(t, c, outputs, o, "of other outputs")
			_, o = g.liar(r, c, outputs).make(g, c, inputs)
			at, claim, ok := g.asks(t, c, outputs, o, "of other outputs, and what hangs together")
			if ok && claim == extendBy(g.p, inputs, at) {
				t.Errorf("%v: other outputs are shown", g)
			}
		}
	}
}
