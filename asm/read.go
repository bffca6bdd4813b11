package asm

import (
	"strconv"
	"strings"

	"attest/api"
)

// greatest is the greatest number of 18 digits.
const greatest = 999999999999999999

// reader is what was read of a text.
type reader struct {
	code   api.Code
	labels map[string]int // what they stand for
	named  []named
}

// named is an instruction whose TO is a name: what that stands for is known when all is read.
type named struct {
	number int
	name   word
}

// read gives the code that a text is.
func read(text string) api.Code {
	r := &reader{labels: map[string]int{}}
	sized := false
	for l := range lines(text) {
		if sized {
			r.line(l)
		} else {
			r.size(l)
			sized = true
		}
	}
	if !sized {
		panic(fault{len(text), api.ErrSyntax})
	}
	r.resolve()
	return r.code
}

// size reads the first line.
func (r *reader) size(l *line) {
	if w := l.take(); w.text != sizeWord {
		w.wrong()
	}
	r.code.Size = number(l.take())
	l.done()
}

// line reads one of the others.
func (r *reader) line(l *line) {
	first := l.take()
	if op, ok := opOf(first.text); ok {
		if len(r.code.List) == api.MaxCode {
			panic(fault{first.at, api.ErrFull})
		}
		r.code.List = append(r.code.List, r.instruction(op, l))
	} else {
		r.label(first)
	}
	l.done()
}

// label reads one, which is the word of a line.
func (r *reader) label(w word) {
	name, ok := strings.CutSuffix(w.text, ":")
	if !ok || !isName(name) {
		w.wrong()
	}
	if _, ok := r.labels[name]; ok {
		panic(fault{w.at, api.ErrSame})
	}
	r.labels[name] = len(r.code.List)
}

// instruction reads the words behind the first one.
func (r *reader) instruction(op int, l *line) api.Ins {
	var is [3]int
	for i, s := range forms[op].slots {
		switch s {
		case numberSlot:
			is[i] = number(l.take())
		case toSlot:
			is[i] = r.to(l.take())
		}
	}
	return api.Ins{Op: op, A: is[0], B: is[1], C: is[2]}
}

// to reads a TO of the instruction that is read; of a name it is 0 for the time being.
func (r *reader) to(w word) int {
	if isName(w.text) {
		r.named = append(r.named, named{number: len(r.code.List), name: w})
		return 0
	}
	return number(w)
}

// resolve puts what labels stand for in the place of their names.
func (r *reader) resolve() {
	for _, n := range r.named {
		to, ok := r.labels[n.name.text]
		if !ok {
			panic(fault{n.name.at, api.ErrName})
		}
		r.code.List[n.number] = withTo(r.code.List[n.number], to)
	}
}

// withTo is an instruction that has a TO, with another one.
func withTo(in api.Ins, to int) api.Ins {
	if forms[in.Op].slots[0] == toSlot {
		in.A = to
	} else {
		in.B = to
	}
	return in
}

// number reads a word that has to be one: written once more, it would be the same word.
func number(w word) int {
	n, err := strconv.Atoi(w.text)
	if err != nil || !isShort(n) || strconv.Itoa(n) != w.text {
		w.wrong()
	}
	return n
}

// isShort tells whether a number has not too many digits.
func isShort(n int) bool { return n >= -greatest && n <= greatest }

// isName tells whether a text is a name, and so none of the words of the language.
func isName(text string) bool {
	if text == "" || len(text) > api.MaxWord || !isLetter(text[0]) {
		return false
	}
	for i := range len(text) {
		if c := text[i]; !isLetter(c) && !isDigit(c) && c != '_' {
			return false
		}
	}
	_, isOpWord := opOf(text)
	return !isOpWord && text != sizeWord
}

func isLetter(c byte) bool { return 'a' <= c && c <= 'z' }

func isDigit(c byte) bool { return '0' <= c && c <= '9' }
