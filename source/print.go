package source

import (
	"strconv"
	"strings"
)

// rank is what of the grammar an expression may be without brackets; where more is asked for, it needs them.
type rank int

const (
	exprRank rank = iota
	sumRank
	productRank
	partRank
)

func (e *part) rank() rank {
	switch e.kind {
	case letPart, needPart, ifPart, samePart:
		return exprRank
	case addPart, subPart:
		return sumRank
	case mulPart, divPart:
		return productRank
	}
	return partRank
}

// line is a function as text.
func (f function) line() string {
	names := make([]string, len(f.brackets))
	for i, n := range f.brackets {
		names[i] = n.text
	}
	return "fn " + f.name.text + "(" + strings.Join(names, ", ") + ") = " + f.body.text() + "\n"
}

// text is an expression as text, without brackets round it.
func (e *part) text() string {
	switch e.kind {
	case numberPart:
		return strconv.Itoa(e.number)
	case namePart:
		return e.name.text
	case callPart:
		return e.name.text + "(" + strings.Join(e.args(), ", ") + ")"
	case minusPart:
		return "-" + e.own(0, partRank)
	case addPart:
		return e.own(0, sumRank) + " + " + e.own(1, productRank)
	case subPart:
		return e.own(0, sumRank) + " - " + e.own(1, productRank)
	case mulPart:
		return e.own(0, productRank) + " * " + e.own(1, partRank)
	case divPart:
		return e.own(0, productRank) + " / " + e.own(1, partRank)
	case samePart:
		return e.own(0, sumRank) + " == " + e.own(1, sumRank)
	case letPart:
		return "let " + e.name.text + " = " + e.own(0, exprRank) + "; " + e.own(1, exprRank)
	case needPart:
		return "need " + e.own(0, sumRank) + " == " + e.own(1, sumRank) + "; " + e.own(2, exprRank)
	}
	return "if " + e.own(0, exprRank) + " then " + e.own(1, exprRank) + " else " + e.own(2, exprRank)
}

// args are the parts of a call as text.
func (e *part) args() []string {
	args := make([]string, len(e.parts))
	for i := range e.parts {
		args[i] = e.own(i, exprRank)
	}
	return args
}

// own is one of an expression's parts as text, where at least some rank is asked for.
func (e *part) own(i int, least rank) string {
	inner := e.parts[i]
	if inner.rank() < least {
		return "(" + inner.text() + ")"
	}
	return inner.text()
}
