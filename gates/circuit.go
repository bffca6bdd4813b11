package gates

import (
	"math/bits"
	"slices"

	"attest/api"
	"attest/field"
)

// What a gate makes of two elements.
const (
	ofSum = iota
	ofProduct
	kinds // so many there are
)

// faultOf tells what is wrong with a circuit; nil: nothing.
func faultOf(c api.Circuit) error {
	if !hasSizes(c) {
		return api.ErrSize
	}
	if !hasGates(c) {
		return api.ErrRange
	}
	return nil
}

// hasSizes tells whether a circuit has as many inputs, layers and gates as may be.
func hasSizes(c api.Circuit) bool {
	if !isBelow(c.Wide, api.MaxGates+1) || len(c.Layers) < 1 || len(c.Layers) > api.MaxLayers {
		return false
	}
	return !slices.ContainsFunc(c.Layers, func(gates []api.Gate) bool { return !isSize(len(gates)) })
}

// isSize tells whether a layer may have so many gates.
func isSize(n int) bool { return n <= 1<<api.MaxGates && bits.OnesCount(uint(n)) == 1 }

// isBelow tells whether n is from 0 on, and below a bound.
func isBelow(n, bound int) bool { return n >= 0 && n < bound }

// hasGates tells, of a circuit that has its sizes, whether each gate is of a kind, and lies on what is beneath.
func hasGates(c api.Circuit) bool {
	beneath := 1 << c.Wide
	for _, gates := range c.Layers {
		for _, g := range gates {
			if !isBelow(g.Kind, kinds) || !isBelow(g.A, beneath) || !isBelow(g.B, beneath) {
				return false
			}
		}
		beneath = len(gates)
	}
	return true
}

// variables tells how many a layer of so many gates has.
func variables(gates int) int { return bits.TrailingZeros(uint(gates)) }

// valuesOf is Values of a circuit, and of as many inputs as it has.
func valuesOf(f *field.Field, c api.Circuit, inputs []int) [][]int {
	first := make([]int, len(inputs))
	for i, n := range inputs {
		first[i] = f.Of(n)
	}
	out := [][]int{first}
	for layer := range c.Layers {
		out = append(out, levelOf(f, c, layer).values(out[layer]))
	}
	return out
}
