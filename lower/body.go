package lower

import (
	"attest/api"
	"attest/source"
)

// body writes what a function does: each of its cells is told once in a call.
type body struct {
	*writer
	names map[string]int // the cells that names stand for
	zero  int            // a cell that is 0
	cells int            // how many there are so far
}

// cell gives one that nothing else is in.
func (b *body) cell() int {
	b.cells++
	return b.cells - 1
}

// value writes what an expression does, and gives the cell that is its value then.
func (b *body) value(e source.Part) int {
	if e.Kind == source.NamePart {
		return b.names[e.Name]
	}
	to := b.cell()
	b.tell(e, to)
	return to
}

// two are the cells of the first two parts.
func (b *body) two(e source.Part) (int, int) {
	first := b.value(e.Parts[0])
	return first, b.value(e.Parts[1])
}

// tell writes what an expression does, whose value a cell is to be told.
func (b *body) tell(e source.Part, to int) {
	switch e.Kind {
	case source.NumberPart:
		b.write(api.OpSet, to, e.Number, 0)
	case source.NamePart:
		b.write(api.OpAdd, b.names[e.Name], b.zero, to)
	case source.CallPart:
		b.tellCall(e, to)
	case source.MinusPart:
		b.write(api.OpSub, b.zero, b.value(e.Parts[0]), to)
	case source.LetPart:
		b.names[e.Name] = b.value(e.Parts[0])
		b.tell(e.Parts[1], to)
		delete(b.names, e.Name)
	case source.NeedPart:
		left, right := b.two(e)
		b.write(api.OpMust, left, right, 0)
		b.tell(e.Parts[2], to)
	case source.IfPart:
		b.tellIf(e, to)
	default:
		left, right := b.two(e)
		b.write(between(e.Kind), left, right, to)
	}
}

// between is what the machine does for a sign between two parts.
func between(kind source.PartKind) int {
	switch kind {
	case source.AddPart:
		return api.OpAdd
	case source.SubPart:
		return api.OpSub
	case source.MulPart:
		return api.OpMul
	case source.DivPart:
		return api.OpDiv
	}
	return api.OpSame
}

// tellCall writes a call. All its parts come ahead of the first OpPass, as a call among them would move ap.
func (b *body) tellCall(e source.Part, to int) {
	from := make([]int, len(e.Parts))
	for i, inner := range e.Parts {
		from[i] = b.value(inner)
	}
	for i, cell := range from {
		b.write(api.OpPass, cell, i, 0)
	}
	b.call(e.Name)
	b.write(api.OpTake, to, 0, 0)
}

// tellIf writes two ways, of which a call goes but one: so both have the same cells.
func (b *body) tellIf(e source.Part, to int) {
	asked := b.value(e.Parts[0])
	cells := b.cells
	zero := b.leave()
	b.tell(e.Parts[1], to)
	jump := b.leave()
	b.fill(zero, api.OpZero, asked, len(b.list), 0)
	most := b.cells
	b.cells = cells
	b.tell(e.Parts[2], to)
	b.fill(jump, api.OpJump, len(b.list), 0, 0)
	b.cells = max(b.cells, most)
}
