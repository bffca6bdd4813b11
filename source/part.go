package source

import "iter"

// PartKind is what a part of a program is.
type PartKind int

// What a part is.
const (
	NumberPart PartKind = iota
	NamePart
	CallPart
	MinusPart // - ahead of a part
	AddPart
	SubPart
	MulPart
	DivPart
	SamePart // a == b
	LetPart
	NeedPart
	IfPart
)

// name is a name of a program, and where it stands.
type name struct {
	text string
	at   int
}

// function is a function of a program.
type function struct {
	name     name
	brackets []name
	body     *part
}

// names are those in brackets.
func (f function) names() []string {
	names := make([]string, len(f.brackets))
	for i, n := range f.brackets {
		names[i] = n.text
	}
	return names
}

// part is an expression: what it is, and its own parts, from the left.
type part struct {
	kind   PartKind
	name   name // of a name, a call, a let
	number int  // of a number
	parts  []*part
}

// all goes through an expression and the parts within it, as they stand, each ahead of its own; with the names that stand
// for something there, which are those given where the expression itself stands.
func (e *part) all(names *scope) iter.Seq2[*part, *scope] {
	return func(yield func(*part, *scope) bool) { e.walk(names, yield) }
}

// walk tells whether yield wanted all of them.
func (e *part) walk(names *scope, yield func(*part, *scope) bool) bool {
	if !yield(e, names) {
		return false
	}
	for i, inner := range e.parts {
		there := names
		if e.kind == LetPart && i == 1 {
			there = names.with(e.name.text, 0)
		}
		if !inner.walk(there, yield) {
			return false
		}
	}
	return true
}
