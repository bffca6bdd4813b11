package gates_test

import (
	"math"
	"math/rand"
	"slices"
	"testing"

	"attest/api"
	"attest/gates"
	"attest/sums"
)

// wire is Wire where nothing is wrong.
func (g stage) wire(t *testing.T, c api.Circuit, layer, kind int, z, x, y []int) int {
	t.Helper()
	is, err := gates.Wire(g.f, c, layer, kind, z, x, y)
	told(t, err, api.OK, "%v: Wire", g)
	return is
}

// part is Part where nothing is wrong.
func (g stage) part(t *testing.T, c api.Circuit, layer int, inputs, z, xs []int) int {
	t.Helper()
	is, err := gates.Part(g.f, c, layer, inputs, z, xs)
	told(t, err, api.OK, "%v: Part", g)
	return is
}

func TestJ2WireByHand(t *testing.T) {
	g := stageOf(t, 97, 2, "1")
	c := api.Circuit{Wide: 2, Layers: [][]api.Gate{{{Kind: 0, A: 1, B: 2}, {Kind: 1, A: 3, B: 0}}}}
	z, x, y := []int{2}, []int{3, 5}, []int{7, 11}
	// (1 - 2), (1 - 3) 5, 7 (1 - 11)
	same(t, g.wire(t, c, 0, 0, z, x, y), element(-1*-10*-70, 97), "Wire of Kind 0")
	// 2, 3 5, (1 - 7) (1 - 11)
	same(t, g.wire(t, c, 0, 1, z, x, y), element(2*15*60, 97), "Wire of Kind 1")
	both := api.Circuit{Wide: 2, Layers: [][]api.Gate{{{Kind: 1, A: 1, B: 2}, {Kind: 1, A: 3, B: 0}}}}
	same(t, g.wire(t, both, 0, 0, z, x, y), 0, "Wire of Kind 0, of which there is no gate")
	same(t, g.wire(t, both, 0, 1, z, x, y), element(-700+1800, 97), "Wire of Kind 1, of which both are")
}

func TestJ2WireIsAsItIsSaid(t *testing.T) {
	r := rand.New(rand.NewSource(10))
	eachField(t, func(g stage) {
		c := g.circuit(r)
		for layer := range c.Layers {
			for kind := range 2 {
				n := g.beneath(layer)
				z, x, y := someList(r, g.p, g.own(layer)), someList(r, g.p, n), someList(r, g.p, n)
				want := wireBy(g.p, c.Layers[layer], kind, z, x, y)
				same(t, g.wire(t, c, layer, kind, z, x, y), want, "%v: Wire of %v at %v %v %v", g, c.Layers[layer], z, x, y)
			}
		}
	})
}

// TestJ2AtPlaces: there it tells whether the gate of this number is of the kind, and comes from there.
func TestJ2AtPlaces(t *testing.T) {
	r := rand.New(rand.NewSource(11))
	g := stageOf(t, 97, 2, "32")
	c := g.circuit(r)
	for layer, gs := range c.Layers {
		n := g.beneath(layer)
		for i, x := range gs {
			for kind := range 2 {
				for a := range 1 << n {
					for b := range 1 << n {
						want := 0
						if x == (api.Gate{Kind: kind, A: a, B: b}) {
							want = 1
						}
						got := g.wire(t, c, layer, kind, bitsOf(i, g.own(layer)), bitsOf(a, n), bitsOf(b, n))
						same(t, got, want, "layer %d: Wire of Kind %d at %d %d %d", layer, kind, i, a, b)
					}
				}
			}
		}
	}
}

// TestJ2WhatALayerExtendsTo: the sum over all places of the layer beneath.
func TestJ2WhatALayerExtendsTo(t *testing.T) {
	r := rand.New(rand.NewSource(12))
	eachField(t, func(g stage) {
		c, inputs := g.circuit(r), g.inputs(r)
		values, err := gates.Values(g.f, c, inputs)
		told(t, err, api.OK, "Values")
		for layer := range c.Layers {
			z, n, sum := someList(r, g.p, g.own(layer)), g.beneath(layer), 0
			for i, a := range values[layer] {
				for j, b := range values[layer] {
					x, y := bitsOf(i, n), bitsOf(j, n)
					sum = element(sum+times(g.wire(t, c, layer, 0, z, x, y), a+b, g.p), g.p)
					sum = element(sum+times(g.wire(t, c, layer, 1, z, x, y), times(a, b, g.p), g.p), g.p)
				}
			}
			is, err := sums.Extend(g.f, values[layer+1], z)
			told(t, err, api.OK, "Extend")
			same(t, sum, is, "%v: the sum over all places of layer %d at %v", g, layer, z)
			same(t, g.part(t, c, layer, inputs, z, nil), is, "%v: Part of layer %d at %v", g, layer, z)
		}
	})
}

var noLayers = []int{-1, math.MinInt, math.MaxInt, 1 << 32, -1 << 63}

func TestJ2WrongLayersKindsAndSizes(t *testing.T) {
	r := rand.New(rand.NewSource(13))
	eachField(t, func(g stage) {
		c := g.circuit(r)
		refused := func(layer, kind, z, x, y int, want api.Errno) {
			t.Helper()
			is, err := gates.Wire(g.f, c, layer, kind, make([]int, z), make([]int, x), make([]int, y))
			told(t, err, want, "%v: Wire of layer %d, Kind %d, at %d, %d, %d elements", g, layer, kind, z, x, y)
			if want != api.OK {
				same(t, is, 0, "%v: Wire with an error", g)
			}
		}
		for _, layer := range append(noLayers, len(c.Layers), len(c.Layers)+1) {
			for _, kind := range []int{0, 1, 2} {
				refused(layer, kind, g.own(0), g.wide, g.wide, api.ErrRange)
				refused(layer, kind, 9, 9, 9, api.ErrRange)
			}
		}
		for layer := range c.Layers {
			k, n := g.own(layer), g.beneath(layer)
			for _, kind := range []int{-1, 2, 3, math.MinInt, math.MaxInt} {
				refused(layer, kind, k, n, n, api.ErrRange)
				refused(layer, kind, k+1, n+1, n+1, api.ErrRange)
			}
			for i := range 9 {
				for j := range 9 {
					for m := range 9 {
						want := api.ErrSize
						if i == k && j == n && m == n {
							want = api.OK
						}
						refused(layer, i&1, i, j, m, want)
					}
				}
			}
		}
	})
}

func TestJ3PartIsAsItIsSaid(t *testing.T) {
	r := rand.New(rand.NewSource(20))
	eachField(t, func(g stage) {
		c, inputs := g.circuit(r), g.inputs(r)
		values := valuesBy(g.p, c, inputs)
		for layer, gs := range c.Layers {
			n := g.beneath(layer)
			for k := range 2*n + 1 {
				z, xs := someList(r, g.p, g.own(layer)), someList(r, g.p, k)
				want := partBy(g.p, gs, values[layer], n, z, xs)
				same(t, g.part(t, c, layer, inputs, z, xs), want, "%v: Part of %v, %v, layer %d, at %v with %v", g, c, inputs, layer, z, xs)
			}
		}
	})
}

// TestJ3GreatLayers: with as many variables as may be, of which few go over 0 and 1, or all.
func TestJ3GreatLayers(t *testing.T) {
	r := rand.New(rand.NewSource(21))
	g := stageOf(t, 12289, 6, "66")
	c, inputs := g.circuit(r), g.inputs(r)
	values := valuesBy(g.p, c, inputs)
	for layer, gs := range c.Layers {
		for k := range 13 {
			z, xs := someList(r, g.p, 6), someList(r, g.p, k)
			want := partBy(g.p, gs, values[layer], 6, z, xs)
			same(t, g.part(t, c, layer, inputs, z, xs), want, "%v: Part of layer %d with %d given", g, layer, k)
		}
	}
}

// TestJ3OneVariableMore: what it is with 0 and with 1 has the sum of what it is without, and all it is with is of a degree
// of at most 2.
func TestJ3OneVariableMore(t *testing.T) {
	r := rand.New(rand.NewSource(22))
	eachStage(t, func(g stage) {
		c, inputs := g.circuit(r), g.inputs(r)
		for layer := range c.Layers {
			for k := range 2 * g.beneath(layer) {
				z, xs, at := someList(r, g.p, g.own(layer)), someList(r, g.p, k), someNumber(r, g.p)
				with := func(n int) int { return g.part(t, c, layer, inputs, z, append(slices.Clone(xs), n)) }
				three := []int{with(0), with(1), with(2)}
				same(t, element(three[0]+three[1], g.p), g.part(t, c, layer, inputs, z, xs), "%v: Part with 0 and 1 behind %v", g, xs)
				same(t, with(at), throughBy(g.p, three, at), "%v: Part with %d behind %v", g, at, xs)
			}
		}
	})
}

// TestJ3AllGiven: what is left is the wires, and what the Values beneath Extend to.
func TestJ3AllGiven(t *testing.T) {
	r := rand.New(rand.NewSource(23))
	for _, tall := range []string{"6", "606", "1634"} {
		g := stageOf(t, 2013265921, 6, tall)
		c, inputs := g.circuit(r), g.inputs(r)
		values := valuesBy(g.p, c, inputs)
		for layer, gs := range c.Layers {
			n := g.beneath(layer)
			z, xs := someList(r, g.p, g.own(layer)), someList(r, g.p, 2*n)
			a, b := extendBy(g.p, values[layer], xs[:n]), extendBy(g.p, values[layer], xs[n:])
			want := endBy(g.p, gs, z, xs[:n], xs[n:], a, b)
			same(t, g.part(t, c, layer, inputs, z, xs), want, "%v: Part of layer %d with all given", g, layer)
		}
	}
}

func TestJ3WrongLayersAndSizes(t *testing.T) {
	r := rand.New(rand.NewSource(24))
	eachField(t, func(g stage) {
		c, inputs := g.circuit(r), g.inputs(r)
		refused := func(layer, z, xs int, want api.Errno) {
			t.Helper()
			is, err := gates.Part(g.f, c, layer, inputs, make([]int, z), make([]int, xs))
			told(t, err, want, "%v: Part of layer %d, at %d elements with %d", g, layer, z, xs)
			if want != api.OK {
				same(t, is, 0, "%v: Part with an error", g)
			}
		}
		for _, layer := range append(noLayers, len(c.Layers), len(c.Layers)+1) {
			refused(layer, g.own(len(c.Layers)-1), 0, api.ErrRange)
			refused(layer, 9, 20, api.ErrRange)
		}
		for layer := range c.Layers {
			for z := range 9 {
				for xs := range 16 {
					want := api.OK
					if z != g.own(layer) || xs > 2*g.beneath(layer) {
						want = api.ErrSize
					}
					refused(layer, z, xs, want)
				}
			}
		}
	})
}
