package source

import (
	"attest/api"
	"attest/field"
)

// ended is what a program that comes to no value panics with.
type ended struct{ by api.Errno }

// eval is a program at work: how many parts were looked at, and how many may be.
type eval struct {
	f           *field.Field
	p           *Program
	parts, fuel int
}

// main gives what main comes to with args, which are as many as its names.
func (v *eval) main(args []int) (value api.Value, err error) {
	defer func() {
		switch why := recover().(type) {
		case nil:
		case ended:
			value, err = api.Value{}, why.by
		default:
			panic(why) // no end of a program: a fault of this package, which is not to pass for one
		}
	}()
	main := v.p.function("main")
	var names *scope
	for i, n := range main.brackets {
		names = names.with(n.text, v.f.Of(args[i]))
	}
	is := v.value(main.body, names)
	return api.Value{Is: is, Parts: v.parts}, nil
}

// look counts a part that is looked at.
func (v *eval) look() {
	if v.parts == v.fuel {
		panic(ended{api.ErrLong})
	}
	v.parts++
}

// must says what has to be so, if the program is to go on.
func must(so bool) {
	if !so {
		panic(ended{api.ErrStuck})
	}
}

// value gives what an expression comes to, names standing for what they are.
func (v *eval) value(e *part, names *scope) int {
	v.look()
	switch e.kind {
	case NumberPart:
		return v.f.Of(e.number)
	case NamePart:
		return names.find(e.name.text).is
	case CallPart:
		return v.call(e, names)
	case MinusPart:
		return v.f.Neg(v.value(e.parts[0], names))
	case LetPart:
		is := v.value(e.parts[0], names)
		return v.value(e.parts[1], names.with(e.name.text, is))
	case NeedPart:
		a, b := v.two(e, names)
		must(a == b)
		return v.value(e.parts[2], names)
	case IfPart:
		if v.value(e.parts[0], names) == 0 {
			return v.value(e.parts[2], names)
		}
		return v.value(e.parts[1], names)
	}
	return v.reckon(e, names)
}

// two gives what the first two parts come to.
func (v *eval) two(e *part, names *scope) (int, int) {
	a := v.value(e.parts[0], names)
	b := v.value(e.parts[1], names)
	return a, b
}

// reckon gives what an expression comes to that is a sign between two parts.
func (v *eval) reckon(e *part, names *scope) int {
	a, b := v.two(e, names)
	switch e.kind {
	case AddPart:
		return v.f.Add(a, b)
	case SubPart:
		return v.f.Sub(a, b)
	case MulPart:
		return v.f.Mul(a, b)
	case DivPart:
		must(b != 0)
		return v.f.Div(a, b)
	}
	if a == b {
		return 1
	}
	return 0
}

// call gives what a call comes to: the function sees its own names alone.
func (v *eval) call(e *part, names *scope) int {
	called := v.p.function(e.name.text)
	var own *scope
	for i, n := range called.brackets {
		own = own.with(n.text, v.value(e.parts[i], names))
	}
	return v.value(called.body, own)
}
