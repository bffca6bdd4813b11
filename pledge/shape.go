package pledge

import (
	"math/bits"
	"slices"

	"attest/api"
	"attest/domain"
	"attest/field"
)

// shape is what a table looks like that is held to: rows, each of which is made longer over a domain.
type shape struct {
	*field.Field
	over *domain.Domain
	high int // the first variables, that tell the row
	low  int // the others, that tell the place in it
}

// newShape is that of a table over v variables; false: there may be none, or its rows are too long for the domain.
func newShape(d *domain.Domain, v int) (shape, bool) {
	if v < 0 || v > api.MaxCube {
		return shape{}, false
	}
	g := shape{d.Field(), d, v / 2, v - v/2}
	return g, g.wide() <= d.Size()/2
}

// shapeOf is that of a table; false, too, if it is none.
func shapeOf(d *domain.Domain, table []int) (shape, bool) {
	if bits.OnesCount(uint(len(table))) != 1 {
		return shape{}, false
	}
	return newShape(d, bits.TrailingZeros(uint(len(table))))
}

// tall tells how many rows there are.
func (g shape) tall() int { return 1 << g.high }

// wide tells how many elements a row has.
func (g shape) wide() int { return 1 << g.low }

// rows gives the table's own memory, row by row.
func (g shape) rows(table []int) [][]int { return slices.Collect(slices.Chunk(table, g.wide())) }

// columns gives what the rows of a table, made longer, have at each point.
func (g shape) columns(table []int) [][]int {
	var longer [][]int
	for _, row := range g.rows(table) {
		longer = append(longer, g.over.Values(row))
	}
	out := make([][]int, g.over.Size())
	for j := range out {
		out[j] = column(longer, j)
	}
	return out
}

// extend asks a table, over as many variables as at has, what it Extends to at that point.
func (g shape) extend(at []int) question {
	weights := g.weights(at) // the same ones for every table that is asked
	return func(table []int) int {
		sum := 0
		for i, n := range table {
			sum = g.Add(sum, g.Mul(n, weights[i]))
		}
		return sum
	}
}

// weights gives, for each place of a table, what one that is 1 there and 0 elsewhere Extends to at a point.
func (g shape) weights(at []int) []int {
	out := []int{1}
	for _, r := range at {
		var next []int
		// The first variable is the greatest bit of a place: each further one parts every place so far in two.
		for _, n := range out {
			next = append(next, g.Mul(n, g.Sub(1, r)), g.Mul(n, r))
		}
		out = next
	}
	return out
}
