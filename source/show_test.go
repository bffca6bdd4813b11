package source_test

import (
	"fmt"
	"math/rand"
	"strings"
	"testing"

	"attest/api"
	"attest/source"
)

var signs = map[source.PartKind]string{source.AddPart: " + ", source.SubPart: " - ", source.MulPart: " * ", source.DivPart: " / ", source.SamePart: " == "}

// fullOf is an expression that is shown as text, with brackets round all that has parts.
func fullOf(e source.Part) string {
	own := []string{}
	for _, inner := range e.Parts {
		own = append(own, fullOf(inner))
	}
	switch e.Kind {
	case source.NumberPart:
		return fmt.Sprint(e.Number)
	case source.NamePart:
		return e.Name
	case source.CallPart:
		return e.Name + "(" + strings.Join(own, ", ") + ")"
	case source.MinusPart:
		return "(-" + own[0] + ")"
	case source.LetPart:
		return "(let " + e.Name + " = " + own[0] + "; " + own[1] + ")"
	case source.NeedPart:
		return "(need " + own[0] + " == " + own[1] + "; " + own[2] + ")"
	case source.IfPart:
		return "(if " + own[0] + " then " + own[1] + " else " + own[2] + ")"
	}
	return "(" + own[0] + signs[e.Kind] + own[1] + ")"
}

func TestG4ShowHasAllParts(t *testing.T) {
	r := rand.New(rand.NewSource(21))
	for range 1000 {
		full := text(grown(r))
		if len(full) > api.MaxText {
			continue
		}
		shown := ""
		for _, f := range program(t, full).Show() {
			shown += "fn " + f.Name + "(" + strings.Join(f.Names, ", ") + ") = " + fullOf(f.Body) + "\n"
		}
		same(t, shown, full, "Show")
	}
}

func TestP2WhatIsShownIsNew(t *testing.T) {
	p := program(t, "fn main(a, b) = if a then f(a - 1, b) else b fn f(x, y) = let z = x; main(z, y)")
	was, shown := p.Print(), fmt.Sprint(p.Show())
	for range 2 {
		all := p.Show()
		for i := range all {
			f := &all[i]
			f.Names[0] = "other"
			_ = append(f.Names, "other")
			for j := range f.Body.Parts {
				f.Body.Parts[j].Parts = append(f.Body.Parts[j].Parts, source.Part{})
				f.Body.Parts[j] = source.Part{}
			}
			all[i] = source.Function{}
		}
		same(t, p.Print(), was, "Print behind a change")
		same(t, p.Show(), shown, "Show behind a change")
	}
}
