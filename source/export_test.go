package source

import (
	"strconv"
	"strings"
)

// Full is the program as text with brackets round all that has parts: two programs are the same where these texts are.
func (p *Program) Full() string {
	out := ""
	for _, f := range p.functions {
		names := []string{}
		for _, n := range f.brackets {
			names = append(names, n.text)
		}
		out += "fn " + f.name.text + "(" + strings.Join(names, ", ") + ") = " + f.body.full() + "\n"
	}
	return out
}

func (e *part) full() string {
	own := []string{}
	for _, inner := range e.parts {
		own = append(own, inner.full())
	}
	between := map[partKind]string{addPart: " + ", subPart: " - ", mulPart: " * ", divPart: " / ", samePart: " == "}
	switch e.kind {
	case numberPart:
		return strconv.Itoa(e.number)
	case namePart:
		return e.name.text
	case callPart:
		return e.name.text + "(" + strings.Join(own, ", ") + ")"
	case minusPart:
		return "(-" + own[0] + ")"
	case letPart:
		return "(let " + e.name.text + " = " + own[0] + "; " + own[1] + ")"
	case needPart:
		return "(need " + own[0] + " == " + own[1] + "; " + own[2] + ")"
	case ifPart:
		return "(if " + own[0] + " then " + own[1] + " else " + own[2] + ")"
	}
	return "(" + own[0] + between[e.kind] + own[1] + ")"
}
