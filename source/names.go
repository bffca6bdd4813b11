package source

import (
	"slices"

	"attest/api"
)

// scope is a name that stands for something, and what it is while a program is gone through; and the names further out.
type scope struct {
	name  string
	is    int
	outer *scope
}

// with has one name more.
func (s *scope) with(name string, is int) *scope { return &scope{name: name, is: is, outer: s} }

// find gives where a name stands for something; nil: it stands for nothing.
func (s *scope) find(name string) *scope {
	for s != nil && s.name != name {
		s = s.outer
	}
	return s
}

// signature is what a call asks of a function.
type signature struct {
	name string
	args int
}

// checkNames panics with the first fault of the names of a text whose functions are all of these.
func checkNames(text string, functions []function) {
	// Of two functions with one name a call may mean the second: that this is a fault is told at its name, and no sooner.
	calls := map[signature]int{}
	for i, f := range functions {
		calls[signature{f.name.text, len(f.brackets)}] = i
	}
	for i, f := range functions {
		if slices.ContainsFunc(functions[:i], func(g function) bool { return g.name.text == f.name.text }) {
			panic(fault{f.name.at, api.ErrSame})
		}
		f.checkWithin(calls)
	}
	if !slices.ContainsFunc(functions, function.isMain) {
		panic(fault{len(text), api.ErrName})
	}
}

func (f function) isMain() bool { return f.name.text == "main" }

// checkWithin panics with the first fault of the names behind the function's own.
func (f function) checkWithin(calls map[signature]int) {
	var names *scope
	for _, n := range f.brackets {
		if names.find(n.text) != nil {
			panic(fault{n.at, api.ErrSame})
		}
		names = names.with(n.text, 0)
	}
	for e, there := range f.body.all(names) {
		if is := e.nameFault(there, calls); is != api.OK {
			panic(fault{e.name.at, is})
		}
	}
}

// nameFault tells what is wrong with the name of a part itself.
func (e *part) nameFault(names *scope, calls map[signature]int) api.Errno {
	switch e.kind {
	case LetPart:
		if names.find(e.name.text) != nil {
			return api.ErrSame
		}
	case NamePart:
		if names.find(e.name.text) == nil {
			return api.ErrName
		}
	case CallPart:
		if _, ok := calls[signature{e.name.text, len(e.parts)}]; !ok {
			return api.ErrName
		}
	}
	return api.OK
}
