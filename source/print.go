package source

import (
	"strconv"
	"strings"
)

// rank is what of the grammar an expression may be without brackets; where more is asked for, it needs them.
type rank int

const (
	exprRank rank = iota
	sumRank
	productRank
	partRank
)

func (e *part) rank() rank {
	switch e.kind {
	case LetPart, NeedPart, IfPart, SamePart:
		return exprRank
	case AddPart, SubPart:
		return sumRank
	case MulPart, DivPart:
		return productRank
	}
	return partRank
}

// line is a function as text.
func (f function) line() string {
	return "fn " + f.name.text + "(" + strings.Join(f.names(), ", ") + ") = " + f.body.text() + "\n"
}

// text is an expression as text, without brackets round it.
func (e *part) text() string {
	switch e.kind {
	case NumberPart:
		return strconv.Itoa(e.number)
	case NamePart:
		return e.name.text
	case CallPart:
		return e.name.text + "(" + strings.Join(e.args(), ", ") + ")"
	case MinusPart:
		return "-" + e.own(0, partRank)
	case AddPart:
		return e.own(0, sumRank) + " + " + e.own(1, productRank)
	case SubPart:
		return e.own(0, sumRank) + " - " + e.own(1, productRank)
	case MulPart:
		return e.own(0, productRank) + " * " + e.own(1, partRank)
	case DivPart:
		return e.own(0, productRank) + " / " + e.own(1, partRank)
	case SamePart:
		return e.own(0, sumRank) + " == " + e.own(1, sumRank)
	case LetPart:
		return "let " + e.name.text + " = " + e.own(0, exprRank) + "; " + e.own(1, exprRank)
	case NeedPart:
		return "need " + e.own(0, sumRank) + " == " + e.own(1, sumRank) + "; " + e.own(2, exprRank)
	}
	return "if " + e.own(0, exprRank) + " then " + e.own(1, exprRank) + " else " + e.own(2, exprRank)
}

// args are the parts of a call as text.
func (e *part) args() []string {
	args := make([]string, len(e.parts))
	for i := range e.parts {
		args[i] = e.own(i, exprRank)
	}
	return args
}

// own is one of an expression's parts as text, where at least some rank is asked for.
func (e *part) own(i int, least rank) string {
	inner := e.parts[i]
	if inner.rank() < least {
		return "(" + inner.text() + ")"
	}
	return inner.text()
}
