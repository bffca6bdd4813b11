package source

import (
	"strconv"
	"strings"
)

// Full is the program as text with brackets round all that has parts: two programs are the same where these texts are.
func (p *Program) Full() string {
	out := ""
	for _, f := range p.functions {
		names := []string{}
		for _, n := range f.brackets {
			names = append(names, n.text)
		}
		out += "fn " + f.name.text + "(" + strings.Join(names, ", ") + ") = " + f.body.full() + "\n"
	}
	return out
}

func (e *part) full() string {
	own := []string{}
	for _, inner := range e.parts {
		own = append(own, inner.full())
	}
	between := map[PartKind]string{AddPart: " + ", SubPart: " - ", MulPart: " * ", DivPart: " / ", SamePart: " == "}
	switch e.kind {
	case NumberPart:
		return strconv.Itoa(e.number)
	case NamePart:
		return e.name.text
	case CallPart:
		return e.name.text + "(" + strings.Join(own, ", ") + ")"
	case MinusPart:
		return "(-" + own[0] + ")"
	case LetPart:
		return "(let " + e.name.text + " = " + own[0] + "; " + own[1] + ")"
	case NeedPart:
		return "(need " + own[0] + " == " + own[1] + "; " + own[2] + ")"
	case IfPart:
		return "(if " + own[0] + " then " + own[1] + " else " + own[2] + ")"
	}
	return "(" + own[0] + between[e.kind] + own[1] + ")"
}
