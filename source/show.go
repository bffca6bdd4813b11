package source

// Function is a function of a program, as it is shown to others.
type Function struct {
	Name  string
	Names []string // in brackets
	Body  Part
}

// Part is an expression, as it is shown to others: what it is, and its own parts, from the left.
type Part struct {
	Kind   PartKind
	Name   string // of a name, a call, a let
	Number int    // of a number
	Parts  []Part
}

// Show gives all functions, in order. All of it is new memory, as a program is not to change under whoever has it.
func (p *Program) Show() []Function {
	shown := make([]Function, len(p.functions))
	for i, f := range p.functions {
		shown[i] = f.shown()
	}
	return shown
}

func (f function) shown() Function {
	return Function{Name: f.name.text, Names: f.names(), Body: f.body.shown()}
}

func (e *part) shown() Part {
	parts := make([]Part, len(e.parts))
	for i, inner := range e.parts {
		parts[i] = inner.shown()
	}
	return Part{Kind: e.kind, Name: e.name.text, Number: e.number, Parts: parts}
}
