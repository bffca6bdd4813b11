package gates_test

import (
	"fmt"
	"math"
	"math/rand"
	"slices"
	"testing"

	"attest/api"
	"attest/chain"
	"attest/field"
	"attest/gates"
	"attest/plain"
	"attest/sponge"
)

// stage is what circuits are looked at on, and that by which a failure is told: a field, how many variables the inputs
// have, and how many each layer.
type stage struct {
	p, wide int
	tall    string // a digit for each layer
	f       *field.Field
	s       *sponge.Sponge // nil: the field has none
}

func stageOf(t *testing.T, p, wide int, tall string) stage {
	t.Helper()
	f, err := field.New(p)
	if err != nil {
		t.Fatalf("field.New(%d): %v", p, err)
	}
	s, err := sponge.New(f)
	if (err == nil) != (p >= 23) {
		t.Fatalf("sponge.New of p = %d: %v", p, err)
	}
	return stage{p, wide, tall, f, s}
}

func (g stage) String() string { return fmt.Sprintf("p = %d, %d and %s", g.p, g.wide, g.tall) }

// small are shapes that all places of can be gone through: with no variable at each place, and with as many layers as may be.
var small = []struct {
	p, wide int
	tall    string
}{
	{97, 1, "1"}, {97, 0, "0"}, {23, 0, "1"}, {23, 1, "0"}, {23, 2, "1"}, {29, 0, "2"}, {29, 3, "2"}, {97, 2, "2"}, {97, 3, "3"},
	{23, 0, "00000000"}, {97, 1, "11111111"}, {97, 2, "01"}, {97, 1, "020"}, {193, 0, "303"}, {193, 2, "12"}, {257, 3, "021"},
	{257, 1, "321"}, {12289, 2, "0130"}, {12289, 1, "22"}, {2013265921, 2, "121"}, {2013265921, 3, "2310"}, {2147483647, 1, "20"},
}

// tiny are primes that have no sponge.
var tiny = []int{3, 5, 7, 11, 13, 17, 19}

func eachStage(t *testing.T, work func(g stage)) {
	t.Helper()
	for _, n := range small {
		work(stageOf(t, n.p, n.wide, n.tall))
	}
}

// eachField is eachStage, over fields without a sponge, too.
func eachField(t *testing.T, work func(g stage)) {
	t.Helper()
	eachStage(t, work)
	for i, p := range tiny {
		work(stageOf(t, p, small[i].wide, small[i].tall))
		work(stageOf(t, p, 2, "131"))
	}
}

// beneath tells how many variables lie beneath a layer.
func (g stage) beneath(layer int) int {
	if layer == 0 {
		return g.wide
	}
	return g.own(layer - 1)
}

// own tells how many variables a layer has.
func (g stage) own(layer int) int { return int(g.tall[layer] - '0') }

func (g stage) circuit(r *rand.Rand) api.Circuit {
	c := api.Circuit{Wide: g.wide}
	for layer := range g.tall {
		var gs []api.Gate
		for range 1 << g.own(layer) {
			gs = append(gs, api.Gate{Kind: r.Intn(2), A: r.Intn(1 << g.beneath(layer)), B: r.Intn(1 << g.beneath(layer))})
		}
		c.Layers = append(c.Layers, gs)
	}
	return c
}

func (g stage) inputs(r *rand.Rand) []int { return someList(r, g.p, 1<<g.wide) }

func same(t *testing.T, got, want any, what string, args ...any) {
	t.Helper()
	if g, w := fmt.Sprint(got), fmt.Sprint(want); g != w {
		t.Errorf("%s: got %s, want %s", fmt.Sprintf(what, args...), g, w)
	}
}

func told(t *testing.T, err error, want api.Errno, what string, args ...any) {
	t.Helper()
	if plain.Told(err) != want {
		t.Errorf("%s: got the error %v, want %v", fmt.Sprintf(what, args...), err, want)
	}
}

// someNumber draws one that is most often an element.
func someNumber(r *rand.Rand, p int) int {
	switch r.Intn(6) {
	case 0:
		return int(r.Uint64())
	case 1:
		return p * (r.Intn(5) - 2)
	case 2:
		return []int{0, 1, -1, math.MinInt, math.MaxInt}[r.Intn(5)]
	}
	return r.Intn(p)
}

func someList(r *rand.Rand, p, n int) []int {
	out := make([]int, n)
	for i := range out {
		out[i] = someNumber(r, p)
	}
	return out
}

func element(n, p int) int { return (n%p + p) % p }

func elements(l []int, p int) []int {
	out := make([]int, len(l))
	for i, n := range l {
		out[i] = element(n, p)
	}
	return out
}

func times(a, b, p int) int { return element(a, p) * element(b, p) % p }

func power(a, n, p int) int {
	out := 1 % p
	for ; n > 0; n /= 2 {
		if n%2 == 1 {
			out = times(out, a, p)
		}
		a = times(a, a, p)
	}
	return out
}

func inverse(a, p int) int { return power(a, p-2, p) }

// throughBy is what the polynomial that is ys at 0, 1, .. is at x.
func throughBy(p int, ys []int, x int) int {
	sum := 0
	for i, y := range ys {
		above, below := element(y, p), 1
		for j := range ys {
			if j != i {
				above, below = times(above, element(x, p)-j, p), times(below, i-j, p)
			}
		}
		sum = element(sum+times(above, inverse(below, p), p), p)
	}
	return sum
}

// weightBy is what a table that is 1 at a place, and 0 elsewhere, Extends to, as U1 says it.
func weightBy(p, place int, at []int) int {
	out := 1
	for j, n := range at {
		if place>>(len(at)-1-j)&1 == 1 {
			out = times(out, n, p)
		} else {
			out = times(out, 1-element(n, p), p)
		}
	}
	return out
}

// extendBy is what a table Extends to, as U1 says it.
func extendBy(p int, table, at []int) int {
	sum := 0
	for i, n := range table {
		sum = element(sum+times(n, weightBy(p, i, at), p), p)
	}
	return sum
}

// valuesBy is Values as J1 says it.
func valuesBy(p int, c api.Circuit, inputs []int) [][]int {
	out := [][]int{elements(inputs, p)}
	for _, gs := range c.Layers {
		under := out[len(out)-1]
		var is []int
		for _, x := range gs {
			is = append(is, [2]int{element(under[x.A]+under[x.B], p), times(under[x.A], under[x.B], p)}[x.Kind])
		}
		out = append(out, is)
	}
	return out
}

// wireBy is Wire as J2 says it.
func wireBy(p int, gs []api.Gate, kind int, z, x, y []int) int {
	sum := 0
	for i, w := range gs {
		if w.Kind == kind {
			sum = element(sum+times(times(weightBy(p, i, z), weightBy(p, w.A, x), p), weightBy(p, w.B, y), p), p)
		}
	}
	return sum
}

// bitsOf gives the bits of a place, the greatest first.
func bitsOf(place, n int) []int {
	out := make([]int, n)
	for j := range out {
		out[j] = place >> (n - 1 - j) & 1
	}
	return out
}

// endBy is what stands beside the sum of J2 at x and y, where a and b stand there.
func endBy(p int, gs []api.Gate, z, x, y []int, a, b int) int {
	a, b = element(a, p), element(b, p)
	return element(times(wireBy(p, gs, 0, z, x, y), a+b, p)+times(wireBy(p, gs, 1, z, x, y), times(a, b, p), p), p)
}

// partBy is Part as J3 says it: under is the list of Values that lies beneath, over n variables.
func partBy(p int, gs []api.Gate, under []int, n int, z, xs []int) int {
	sum, rest := 0, 2*n-len(xs)
	for place := range 1 << rest {
		xy := slices.Concat(xs, bitsOf(place, rest))
		x, y := xy[:n], xy[n:]
		sum = element(sum+endBy(p, gs, z, x, y, extendBy(p, under, x), extendBy(p, under, y)), p)
	}
	return sum
}

// betweenBy gives x + t (y - x).
func betweenBy(p int, x, y []int, t int) []int {
	out := make([]int, len(x))
	for i := range out {
		out[i] = element(x[i]+times(t, y[i]-x[i], p), p)
	}
	return out
}

// chainBy is the chain of J4 and J5.
func (g stage) chainBy(c api.Circuit, outputs []int) *chain.Chain {
	label := []int{g.p, c.Wide, len(c.Layers)}
	for _, gs := range c.Layers {
		label = append(label, len(gs))
		for _, x := range gs {
			label = append(label, x.Kind, x.A, x.B)
		}
	}
	return chain.New(g.s, slices.Concat(label, outputs))
}

// drawsBy draws so many elements.
func drawsBy(k *chain.Chain, n int) []int {
	out := make([]int, n)
	for i := range out {
		out[i] = k.Draw()
	}
	return out
}

// forged is Make as J4 says it, but for what its parts change on the way.
type forged struct {
	named   *api.Circuit                                   // the circuit that the chain is told
	outputs func(l []int) []int                            // what is told for the outputs
	round   func(layer, i, claim int) []int                // .. for a round, so much being claimed
	line    func(layer, claim int, z, x, y, l []int) []int // .. for a line
}

func (m forged) make(g stage, c api.Circuit, inputs []int) (outputs []int, o api.Layered) {
	values := valuesBy(g.p, c, inputs)
	outputs = values[len(c.Layers)]
	if m.outputs != nil {
		outputs = m.outputs(outputs)
	}
	k := g.chainBy(c, outputs)
	if m.named != nil {
		k = g.chainBy(*m.named, outputs)
	}
	z := drawsBy(k, g.own(len(c.Layers)-1))
	claim := extendBy(g.p, outputs, z)
	for layer := len(c.Layers) - 1; layer >= 0; layer-- {
		gs, under, n := c.Layers[layer], values[layer], g.beneath(layer)
		var rounds [][]int
		var xy []int
		for i := range 2 * n {
			var round []int
			if m.round != nil {
				round = m.round(layer, i, claim)
			} else {
				for v := range 3 {
					round = append(round, partBy(g.p, gs, under, n, z, append(slices.Clone(xy), v)))
				}
			}
			rounds = append(rounds, round)
			k.Take(round)
			xy = append(xy, k.Draw())
			claim = throughBy(g.p, round, xy[i])
		}
		x, y := xy[:n], xy[n:]
		var line []int
		for v := range n + 1 {
			line = append(line, extendBy(g.p, under, betweenBy(g.p, x, y, v)))
		}
		if m.line != nil {
			line = m.line(layer, claim, z, x, y, line)
		}
		k.Take(line)
		at := k.Draw()
		z, claim = betweenBy(g.p, x, y, at), throughBy(g.p, line, at)
		o.Rounds, o.Lines = append(o.Rounds, rounds), append(o.Lines, line)
	}
	return outputs, o
}

// checkBy is Check as J5 says it, of what has the sizes of the stage, be it a circuit or not.
func (g stage) checkBy(c api.Circuit, outputs []int, o api.Layered) (at []int, claim int, ok bool) {
	last := len(c.Layers) - 1
	if len(outputs) != 1<<g.own(last) || len(o.Rounds) != last+1 || len(o.Lines) != last+1 {
		return nil, 0, false
	}
	k := g.chainBy(c, outputs)
	z := drawsBy(k, g.own(last))
	claim = extendBy(g.p, outputs, z)
	for i := range c.Layers {
		layer := last - i
		n, rounds, line := g.beneath(layer), o.Rounds[i], o.Lines[i]
		if len(rounds) != 2*n || len(line) != n+1 {
			return nil, 0, false
		}
		var xy []int
		for _, round := range rounds {
			if len(round) != 3 || element(element(round[0], g.p)+element(round[1], g.p), g.p) != claim {
				return nil, 0, false
			}
			k.Take(round)
			xy = append(xy, k.Draw())
			claim = throughBy(g.p, round, xy[len(xy)-1])
		}
		x, y := xy[:n], xy[n:]
		if endBy(g.p, c.Layers[layer], z, x, y, line[0], line[min(n, 1)]) != claim {
			return nil, 0, false
		}
		k.Take(line)
		t := k.Draw()
		z, claim = betweenBy(g.p, x, y, t), throughBy(g.p, line, t)
	}
	return z, claim, true
}

// made is Make where nothing is wrong.
func (g stage) made(t *testing.T, c api.Circuit, inputs []int) api.Layered {
	t.Helper()
	o, err := gates.Make(g.s, c, inputs)
	told(t, err, api.OK, "%v: Make", g)
	return o
}

// asks holds Check against checkBy, and gives what it answers.
func (g stage) asks(t *testing.T, c api.Circuit, outputs []int, o api.Layered, what string) ([]int, int, bool) {
	t.Helper()
	at, claim, ok := gates.Check(g.s, c, outputs, o)
	z, want, taken := g.checkBy(c, outputs, o)
	same(t, ok, taken, "%v: Check %s", g, what)
	same(t, at, z, "%v: where Check claims something %s", g, what)
	same(t, claim, want, "%v: what Check claims %s", g, what)
	return at, claim, ok
}

// refuses asks that it is not shown.
func (g stage) refuses(t *testing.T, c api.Circuit, outputs []int, o api.Layered, what string) {
	t.Helper()
	g.refusesAny(t, c, outputs, o, what)
	g.asks(t, c, outputs, o, what)
}

// refusesAny is refuses, where the circuit need be none of the stage.
func (g stage) refusesAny(t *testing.T, c api.Circuit, outputs []int, o api.Layered, what string) {
	t.Helper()
	if at, claim, ok := gates.Check(g.s, c, outputs, o); ok || claim != 0 || len(at) != 0 {
		t.Errorf("%v: Check %s: it is taken, or not nothing: %v, %d, %v", g, what, at, claim, ok)
	}
}

// takes asks that it is shown, and gives what is claimed.
func (g stage) takes(t *testing.T, c api.Circuit, outputs []int, o api.Layered, what string) ([]int, int) {
	t.Helper()
	at, claim, ok := g.asks(t, c, outputs, o, what)
	same(t, ok, true, "%v: Check %s: is it taken", g, what)
	return at, claim
}

func copied(o api.Layered) (out api.Layered) {
	for _, rounds := range o.Rounds {
		var l [][]int
		for _, round := range rounds {
			l = append(l, slices.Clone(round))
		}
		out.Rounds = append(out.Rounds, l)
	}
	for _, line := range o.Lines {
		out.Lines = append(out.Lines, slices.Clone(line))
	}
	return out
}

func copiedCircuit(c api.Circuit) api.Circuit {
	out := api.Circuit{Wide: c.Wide}
	for _, gs := range c.Layers {
		out.Layers = append(out.Layers, slices.Clone(gs))
	}
	return out
}

// lists gives each list of numbers that shows something.
func lists(o api.Layered) (out [][]int) {
	for _, rounds := range o.Rounds {
		out = append(out, rounds...)
	}
	return append(out, o.Lines...)
}
