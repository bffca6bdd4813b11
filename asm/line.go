package asm

import (
	"iter"
	"strings"

	"attest/api"
)

// blanks stand between words.
const blanks = " \t"

// fault is what the reading of a text that is no code panics with.
type fault struct {
	at int
	is api.Errno
}

// word is a word of a text, and where it begins.
type word struct {
	text string
	at   int
}

// wrong ends the reading: the word cannot stand where it is.
func (w word) wrong() { panic(fault{w.at, api.ErrSyntax}) }

// line is a line of which some words may have been taken.
type line struct {
	rest string // of what is looked at
	at   int    // where rest begins
	end  int    // where the line ends, with what is not looked at
}

// lines goes through those that have words.
func lines(text string) iter.Seq[*line] {
	return func(yield func(*line) bool) {
		at := 0
		for whole := range strings.Lines(text) {
			bare := strings.TrimSuffix(whole, "\n")
			looked, _, _ := strings.Cut(bare, ";")
			if strings.Trim(looked, blanks) != "" && !yield(&line{rest: looked, at: at, end: at + len(bare)}) {
				return
			}
			at += len(whole)
		}
	}
}

// next takes a word, if there is one.
func (l *line) next() (word, bool) {
	rest := strings.TrimLeft(l.rest, blanks)
	w := word{text: rest, at: l.at + len(l.rest) - len(rest)}
	if n := strings.IndexAny(rest, blanks); n >= 0 {
		w.text = rest[:n]
	}
	l.rest, l.at = rest[len(w.text):], w.at+len(w.text)
	return w, w.text != ""
}

// take takes a word, which has to be there.
func (l *line) take() word {
	w, ok := l.next()
	if !ok {
		panic(fault{l.end, api.ErrSyntax})
	}
	return w
}

// done says that there has to be no word left.
func (l *line) done() {
	if w, ok := l.next(); ok {
		w.wrong()
	}
}
