package gates

import (
	"slices"

	"attest/api"
	"attest/field"
	"attest/sums"
)

// level is where somebody stands who goes down a circuit: a layer, on what lies beneath it.
type level struct {
	*field.Field
	gates []api.Gate
	below int // variables of what lies beneath
}

// levelOf is that of a layer which the circuit has.
func levelOf(f *field.Field, c api.Circuit, layer int) level {
	below := c.Wide
	if layer > 0 {
		below = variables(len(c.Layers[layer-1]))
	}
	return level{f, c.Layers[layer], below}
}

// own tells how many variables the layer itself has.
func (l level) own() int { return variables(len(l.gates)) }

// values gives what the gates are, where it is known what lies beneath.
func (l level) values(beneath []int) []int {
	out := make([]int, len(l.gates))
	for i, g := range l.gates {
		out[i] = l.joined(g.Kind, beneath[g.A], beneath[g.B])
	}
	return out
}

// joined is what a gate of a kind makes of two elements.
func (l level) joined(kind, a, b int) int {
	if kind == ofSum {
		return l.Add(a, b)
	}
	return l.Mul(a, b)
}

// wire is Wire, of a kind that there is, and of as many elements as are asked for.
func (l level) wire(kind int, z, x, y []int) int {
	sum := 0
	for i, g := range l.gates {
		if g.Kind == kind {
			sum = l.Add(sum, l.product(l.weight(i, z), l.weight(g.A, x), l.weight(g.B, y)))
		}
	}
	return sum
}

// weight is what a table that is 1 at a place, and 0 elsewhere, Extends to at a point.
func (l level) weight(place int, at []int) int {
	out := 1
	for i, r := range at {
		// The first variable is the greatest bit of a place.
		if place>>(len(at)-1-i)&1 == 0 {
			r = l.Sub(1, r)
		}
		out = l.Mul(out, r)
	}
	return out
}

func (l level) product(factors ...int) int {
	out := 1
	for _, n := range factors {
		out = l.Mul(out, n)
	}
	return out
}

// part is Part, where it is known what lies beneath.
func (l level) part(beneath, z, xs []int) int {
	ofX := min(len(xs), l.below)
	x, y := l.sideOf(beneath, xs[:ofX]), l.sideOf(beneath, xs[ofX:])
	sum := 0
	for i, g := range l.gates {
		is := l.joined(g.Kind, x.stands(g.A), y.stands(g.B))
		sum = l.Add(sum, l.product(l.weight(i, z), l.weight(x.row(g.A), x.first), l.weight(y.row(g.B), y.first), is))
	}
	return sum
}

// side is x or y in a Part: some first variables are elements, the others go over 0 and 1. A gate's wire is 0 but where
// those others are the last bits of the gate that it comes from: so of all these places it takes part at one alone.
type side struct {
	first []int
	rest  int   // variables that go over 0 and 1
	table []int // over the rest: what the Values beneath are
}

func (l level) sideOf(beneath, first []int) side {
	return side{first, l.below - len(first), fixed(l.Field, beneath, first)}
}

// row is that number of a gate that the first bits make.
func (s side) row(gate int) int { return gate >> s.rest }

// stands is what the Values beneath Extend to where the last bits are a gate's.
func (s side) stands(gate int) int { return s.table[gate&(1<<s.rest-1)] }

// fixed gives a table the first variables of which are some elements; it has at least as many.
func fixed(f *field.Field, table, first []int) []int {
	for _, r := range first {
		table, _ = sums.Fix(f, table, r) // there is a variable left, so there is no error
	}
	return table
}

// extended is what a table, over as many variables as at has, Extends to there.
func extended(f *field.Field, table, at []int) int { return f.Of(fixed(f, table, at)[0]) }

// round is what Part is with the next variable 0, 1 and 2.
func (l level) round(beneath, z, drawn []int) []int {
	out := make([]int, told)
	for x := range out {
		out[x] = l.part(beneath, z, slices.Concat(drawn, []int{x}))
	}
	return out
}

// line is what the Values beneath Extend to at as many points from x over y on as tell what they are at all of these.
func (l level) line(beneath, x, y []int) []int {
	out := make([]int, l.below+1)
	for t := range out {
		out[t] = extended(l.Field, beneath, l.between(x, y, t))
	}
	return out
}

// between gives x + t (y - x).
func (l level) between(x, y []int, t int) []int {
	out := make([]int, len(x))
	for i := range out {
		out[i] = l.Add(x[i], l.Mul(t, l.Sub(y[i], x[i])))
	}
	return out
}
