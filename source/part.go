package source

import "iter"

// partKind is what a part of a program is.
type partKind int

const (
	numberPart partKind = iota
	namePart
	callPart
	minusPart // - ahead of a part
	addPart
	subPart
	mulPart
	divPart
	samePart // a == b
	letPart
	needPart
	ifPart
)

// name is a name of a program, and where it stands.
type name struct {
	text string
	at   int
}

// function is a function of a program.
type function struct {
	name     name
	brackets []name
	body     *part
}

// part is an expression: what it is, and its own parts, from the left.
type part struct {
	kind   partKind
	name   name // of a name, a call, a let
	number int  // of a number
	parts  []*part
}

// all goes through an expression and the parts within it, as they stand, each ahead of its own; with the names that stand
// for something there, which are those given where the expression itself stands.
func (e *part) all(names *scope) iter.Seq2[*part, *scope] {
	return func(yield func(*part, *scope) bool) { e.walk(names, yield) }
}

// walk tells whether yield wanted all of them.
func (e *part) walk(names *scope, yield func(*part, *scope) bool) bool {
	if !yield(e, names) {
		return false
	}
	for i, inner := range e.parts {
		there := names
		if e.kind == letPart && i == 1 {
			there = names.with(e.name.text, 0)
		}
		if !inner.walk(there, yield) {
			return false
		}
	}
	return true
}
