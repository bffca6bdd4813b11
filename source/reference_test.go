package source_test

import (
	"regexp"
	"slices"
	"strings"

	"attest/api"
)

// What follows finds the first fault of a text in another way than the program: the grammar is a table that all readings of
// a text are gone through by at once; levels and names are followed by a stack.

// grammar has, for each of its names, what may stand for it.
var grammar = map[string][]string{
	"Program":  {"", "Program Function"},
	"Function": {"fn name ( Names ) = Expr"},
	"Names":    {"", "SomeName"},
	"SomeName": {"name", "SomeName , name"},
	"Expr":     {"let name = Expr ; Expr", "need Sum == Sum ; Expr", "if Expr then Expr else Expr", "Sum", "Sum == Sum"},
	"Sum":      {"Product", "Sum + Product", "Sum - Product"},
	"Product":  {"Part", "Product * Part", "Product / Part"},
	"Part":     {"number", "name", "name ( Exprs )", "( Expr )", "- Part"},
	"Exprs":    {"", "SomeExpr"},
	"SomeExpr": {"Expr", "SomeExpr , Expr"},
}

// spot is a reading of what stands for a name of the grammar: how far it is, and which token it began at.
type spot struct {
	of, words string
	done      int
	from      int
}

// next is what is to stand next; empty: all stands.
func (s spot) next() string {
	words := strings.Fields(s.words)
	if s.done == len(words) {
		return ""
	}
	return words[s.done]
}

func (s spot) further() spot {
	s.done++
	return s
}

// readings are all spots that there are ahead of a token.
type readings struct {
	list []spot
	has  map[spot]int
}

func (r *readings) add(s spot) {
	if _, ok := r.has[s]; !ok {
		r.has[s] = len(r.list)
		r.list = append(r.list, s)
	}
}

// close adds all that follows from what there is. An empty one is done where it begins: whoever waits for it goes on at once.
func (r *readings) close(at int, sets []*readings) {
	for i := 0; i < len(r.list); i++ {
		s := r.list[i]
		next := s.next()
		if next == "" {
			for _, waits := range slices.Clone(sets[s.from].list) {
				if waits.next() == s.of {
					r.add(waits.further())
				}
			}
			continue
		}
		for _, words := range grammar[next] {
			r.add(spot{of: next, words: words, from: at})
			if words == "" {
				r.add(s.further())
			}
		}
	}
}

// lexeme is a token, as the reference has it.
type lexeme struct {
	kind string // name, number, wrong, end, or itself
	text string
	at   int
}

var lexemes = regexp.MustCompile(`^(?:([ \t\n]+|#[^\n]*)|([A-Za-z0-9_]+)|(==|[(),;=+*/-])|((?s:.)))`)

// words are the tokens of a text, and its end.
func words(text string) []lexeme {
	var all []lexeme
	raw := latin(text)
	for at := 0; at < len(text); {
		m := lexemes.FindStringSubmatch(raw[at:])
		l := lexeme{kind: m[0], text: m[0], at: at}
		switch {
		case m[2] != "":
			l.kind = wordOf(m[2])
		case m[4] != "":
			l.kind = "wrong"
		}
		if m[1] == "" {
			all = append(all, l)
		}
		at += len(m[0])
	}
	return append(all, lexeme{kind: "end", at: len(text)})
}

// latin has a byte of ASCII for each byte, so that a byte is a rune.
func latin(text string) string {
	b := []byte(text)
	for i := range b {
		if b[i] >= 0x80 {
			b[i] = '!'
		}
	}
	return string(b)
}

var (
	numbers   = regexp.MustCompile(`^(0|[1-9][0-9]*)$`)
	names     = regexp.MustCompile(`^[A-Za-z]`)
	languages = regexp.MustCompile(`^(fn|let|need|if|then|else)$`)
)

func wordOf(text string) string {
	switch {
	case languages.MatchString(text):
		return text
	case names.MatchString(text):
		return "name"
	case numbers.MatchString(text):
		return "number"
	}
	return "wrong"
}

// misplaced gives the number of the first token that cannot stand where it does; -1: there is none.
func misplaced(tokens []lexeme) int {
	var sets []*readings
	here := &readings{has: map[spot]int{}}
	for _, words := range grammar["Program"] {
		here.add(spot{of: "Program", words: words})
	}
	for i, l := range tokens {
		sets = append(sets, here)
		here.close(i, sets)
		if l.kind == "end" {
			break
		}
		next := &readings{has: map[spot]int{}}
		for _, s := range here.list {
			if s.next() == l.kind {
				next.add(s.further())
			}
		}
		if len(next.list) == 0 {
			return i
		}
		here = next
	}
	for _, s := range here.list {
		if s.of == "Program" && s.from == 0 && s.next() == "" {
			return -1
		}
	}
	return len(tokens) - 1
}

// level is one that was begun by a token; name is what it lets, once that stands for something.
type level struct {
	begun, name string
	awaits      string // what is still to stand at this level: the ; of let and need, then and else of if
}

// levels goes through tokens, all of which can stand where they do, and tells which levels each stands within.
func levels(tokens []lexeme, each func(i int, within []level)) {
	var stack []level
	to := func(ends func(l level) bool) { // takes levels off, up to one
		for len(stack) > 0 && !ends(stack[len(stack)-1]) {
			stack = stack[:len(stack)-1]
		}
	}
	for i, l := range tokens {
		ahead := lexeme{kind: "="}
		if i > 0 {
			ahead = tokens[i-1]
		}
		ended := slices.Contains([]string{"name", "number", ")"}, ahead.kind) && l.kind != "(" || ahead.kind == ")"
		if ended { // a part ended ahead, and with it each - that began it
			to(func(l level) bool { return l.begun != "-" })
		}
		switch l.kind {
		case "fn", "end":
			stack = nil
		case ")", ",":
			to(func(l level) bool { return l.begun == "(" })
		case ";", "then", "else":
			to(func(f level) bool { return f.awaits == l.kind })
		}
		each(i, stack)
		switch l.kind {
		case ")":
			stack = stack[:len(stack)-1]
		case ";", "then", "else":
			stack[len(stack)-1].awaits = map[string]string{"then": "else"}[l.kind]
		case "(":
			stack = append(stack, level{begun: "("})
		case "let":
			stack = append(stack, level{begun: "let", awaits: ";", name: tokens[min(i+1, len(tokens)-1)].text})
		case "need":
			stack = append(stack, level{begun: "need", awaits: ";"})
		case "if":
			stack = append(stack, level{begun: "if", awaits: "then"})
		case "-":
			if !ended {
				stack = append(stack, level{begun: "-"})
			}
		}
	}
}

// begins tells whether a token begins a level.
func begins(tokens []lexeme, i int) bool {
	switch tokens[i].kind {
	case "(", "let", "need", "if":
		return true
	case "-":
		return !slices.Contains([]string{"name", "number", ")"}, tokens[i-1].kind)
	}
	return false
}

// tooGreat tells whether a number is above 2^63 - 1.
func tooGreat(text string) bool {
	const most = "9223372036854775807"
	return len(text) > len(most) || len(text) == len(most) && text > most
}

// firstFault is what Parse is to answer.
func firstFault(text string) (at int, is api.Errno) {
	if len(text) > api.MaxText {
		return 0, api.ErrFull
	}
	tokens := words(text)
	wrong := misplaced(tokens)
	good := tokens
	if wrong >= 0 {
		good = tokens[:wrong]
	}
	found := false
	levels(good, func(i int, within []level) {
		l := good[i]
		told := api.OK
		switch {
		case l.kind == "number" && tooGreat(l.text), l.kind == "name" && len(l.text) > api.MaxWord:
			told = api.ErrRange
		case begins(good, i) && len(within) == api.MaxNest:
			told = api.ErrFull
		}
		if told != api.OK && !found {
			at, is, found = l.at, told, true
		}
	})
	if found {
		return at, is
	}
	if wrong >= 0 {
		return tokens[wrong].at, api.ErrSyntax
	}
	return nameFault(tokens)
}

// arity tells how many parts stand in the brackets that open at a token.
func arity(tokens []lexeme, open int) int {
	if tokens[open+1].kind == ")" {
		return 0
	}
	depth, n := 0, 1
	for _, l := range tokens[open:] {
		switch l.kind {
		case "(":
			depth++
		case ")":
			depth--
		case ",":
			if depth == 1 {
				n++
			}
		}
		if depth == 0 {
			break
		}
	}
	return n
}

// nameFault is the first fault of names of a text that has no other.
func nameFault(tokens []lexeme) (at int, is api.Errno) {
	type shape struct {
		name string
		args int
	}
	shapes := map[shape]bool{}
	for i, l := range tokens {
		if l.kind == "fn" {
			shapes[shape{tokens[i+1].text, arity(tokens, i+2)}] = true
		}
	}
	functions, brackets := map[string]bool{}, map[string]bool{}
	header := false
	levels(tokens, func(i int, within []level) {
		l := tokens[i]
		switch {
		case l.kind == "fn":
			header, brackets = true, map[string]bool{}
		case header && l.kind == "=":
			header = false
		}
		if l.kind != "name" || is != api.OK {
			return
		}
		known := brackets[l.text]
		for _, v := range within {
			known = known || v.begun == "let" && v.awaits == "" && v.name == l.text
		}
		told := api.OK
		switch {
		case header && tokens[i-1].kind == "fn":
			if functions[l.text] {
				told = api.ErrSame
			}
			functions[l.text] = true
		case header:
			if known {
				told = api.ErrSame
			}
			brackets[l.text] = true
		case tokens[i-1].kind == "let":
			// Its own level is begun, but awaits its ; still.
			if known {
				told = api.ErrSame
			}
		case tokens[i+1].kind == "(":
			if !shapes[shape{l.text, arity(tokens, i+1)}] {
				told = api.ErrName
			}
		case !known:
			told = api.ErrName
		}
		if told != api.OK {
			at, is = l.at, told
		}
	})
	if is == api.OK && !functions["main"] {
		return tokens[len(tokens)-1].at, api.ErrName
	}
	return at, is
}
