package source

import (
	"strconv"
	"strings"

	"attest/api"
)

// fault is what the reading of a text that is no program panics with.
type fault struct {
	at int
	is api.Errno
}

// reader goes through the tokens of a text.
type reader struct {
	text  string
	next  token
	level int // how many levels what stands next is within
}

// read gives the functions of a text.
func read(text string) []function {
	r := &reader{text: text, next: tokenAt(text, 0)}
	var all []function
	for r.next.kind != endToken {
		all = append(all, r.function())
	}
	return all
}

// take goes past the next token, which has to be of a kind.
func (r *reader) take(kind tokenKind) token {
	t := r.next
	if t.kind != kind {
		panic(fault{t.at, api.ErrSyntax})
	}
	r.next = tokenAt(r.text, t.at+len(t.text))
	return t
}

// enter goes past the next token, which has to be of a kind, and begins a level.
func (r *reader) enter(kind tokenKind) {
	at := r.take(kind).at
	if r.level == api.MaxNest {
		panic(fault{at, api.ErrFull})
	}
	r.level++
}

// leave ends the level that was begun last.
func (r *reader) leave() { r.level-- }

func (r *reader) function() function {
	r.take(fnToken)
	f := function{name: r.name(), brackets: list(r, r.name)}
	r.take(isToken)
	f.body = r.expr()
	return f
}

func (r *reader) name() name {
	t := r.take(wordToken)
	if len(t.text) > api.MaxWord {
		panic(fault{t.at, api.ErrRange})
	}
	// A program keeps its names, but not the text that they stand in.
	return name{text: strings.Clone(t.text), at: t.at}
}

// list reads brackets, and any number of items in them, with commas between.
func list[T any](r *reader, item func() T) []T {
	r.enter(openToken)
	defer r.leave()
	var all []T
	if r.next.kind != closeToken {
		all = append(all, item())
	}
	for len(all) > 0 && r.next.kind == commaToken {
		r.take(commaToken)
		all = append(all, item())
	}
	r.take(closeToken)
	return all
}

func (r *reader) expr() *part {
	switch r.next.kind {
	case letToken:
		return r.let()
	case needToken:
		return r.need()
	case ifToken:
		return r.choice()
	}
	left := r.sum()
	if r.next.kind == sameToken {
		return r.pair(SamePart, left, r.sum)
	}
	return left
}

func (r *reader) let() *part {
	r.enter(letToken)
	defer r.leave()
	called := r.name()
	r.take(isToken)
	is := r.expr()
	r.take(endingToken)
	return &part{kind: LetPart, name: called, parts: []*part{is, r.expr()}}
}

func (r *reader) need() *part {
	r.enter(needToken)
	defer r.leave()
	left := r.sum()
	r.take(sameToken)
	right := r.sum()
	r.take(endingToken)
	return &part{kind: NeedPart, parts: []*part{left, right, r.expr()}}
}

func (r *reader) choice() *part {
	r.enter(ifToken)
	defer r.leave()
	asked := r.expr()
	r.take(thenToken)
	first := r.expr()
	r.take(elseToken)
	return &part{kind: IfPart, parts: []*part{asked, first, r.expr()}}
}

func (r *reader) sum() *part {
	left := r.product()
	for {
		switch r.next.kind {
		case plusToken:
			left = r.pair(AddPart, left, r.product)
		case minusToken:
			left = r.pair(SubPart, left, r.product)
		default:
			return left
		}
	}
}

func (r *reader) product() *part {
	left := r.part()
	for {
		switch r.next.kind {
		case timesToken:
			left = r.pair(MulPart, left, r.part)
		case overToken:
			left = r.pair(DivPart, left, r.part)
		default:
			return left
		}
	}
}

// pair reads the sign that stands next and what is behind it; what is ahead of it is read.
func (r *reader) pair(kind PartKind, left *part, behind func() *part) *part {
	r.take(r.next.kind)
	return &part{kind: kind, parts: []*part{left, behind()}}
}

func (r *reader) part() *part {
	switch r.next.kind {
	case wordToken:
		return r.named()
	case openToken:
		return r.inBrackets()
	case minusToken:
		return r.minus()
	}
	return r.number()
}

// named reads a name, or a call if a bracket stands behind it.
func (r *reader) named() *part {
	called := r.name()
	if r.next.kind == openToken {
		return &part{kind: CallPart, name: called, parts: list(r, r.expr)}
	}
	return &part{kind: NamePart, name: called}
}

func (r *reader) inBrackets() *part {
	r.enter(openToken)
	defer r.leave()
	e := r.expr()
	r.take(closeToken)
	return e
}

func (r *reader) minus() *part {
	r.enter(minusToken)
	defer r.leave()
	return &part{kind: MinusPart, parts: []*part{r.part()}}
}

func (r *reader) number() *part {
	t := r.take(numberToken)
	n, err := strconv.Atoi(t.text)
	if err != nil { // digits alone are wrong in one way only: they are too many
		panic(fault{t.at, api.ErrRange})
	}
	return &part{kind: NumberPart, number: n}
}
