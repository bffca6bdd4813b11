package source_test

import (
	"fmt"
	"math"
	"math/big"
	"math/rand"
	"strings"
	"testing"

	"attest/api"
	"attest/plain"
	"attest/source"
)

// tree is an expression, as the tests have it: op is a word or a sign, or "number", "name", "call", "minus".
type tree struct {
	op, name string
	number   int
	own      []*tree
}

// routine is a function, as the tests have it.
type routine struct {
	name  string
	names []string
	body  *tree
}

// grower draws programs.
type grower struct {
	*rand.Rand
	routines []routine
	lets     int
}

// grown draws a program: some functions, of which one is main.
func grown(r *rand.Rand) []routine {
	g := &grower{Rand: r}
	for i := range 1 + r.Intn(3) {
		names := []string{"a", "b", "c", "f0"}[:r.Intn(4)]
		g.routines = append(g.routines, routine{name: fmt.Sprint("f", i), names: names})
	}
	g.routines[r.Intn(len(g.routines))].name = "main"
	for i, f := range g.routines {
		g.routines[i].body = g.expr(f.names, 1+r.Intn(5))
	}
	return g.routines
}

var someNumbers = []int{0, 0, 1, 1, 2, 3, 5, 96, 97, 98, 1000000007, math.MaxInt}

// expr draws an expression, in which some names stand for something.
func (g *grower) expr(names []string, depth int) *tree {
	if depth == 0 || g.Intn(8) == 0 {
		if len(names) > 0 && g.Intn(3) > 0 {
			return &tree{op: "name", name: names[g.Intn(len(names))]}
		}
		return &tree{op: "number", number: someNumbers[g.Intn(len(someNumbers))]}
	}
	inner := func(n int) []*tree {
		own := make([]*tree, n)
		for i := range own {
			own[i] = g.expr(names, depth-1)
		}
		return own
	}
	switch op := []string{"+", "-", "*", "/", "==", "minus", "let", "need", "if", "if", "call", "call"}[g.Intn(12)]; op {
	case "minus":
		return &tree{op: op, own: inner(1)}
	case "call":
		f := g.routines[g.Intn(len(g.routines))]
		return &tree{op: op, name: f.name, own: inner(len(f.names))}
	case "let":
		g.lets++
		name := fmt.Sprint("x", g.lets)
		more := append(names[:len(names):len(names)], name)
		return &tree{op: op, name: name, own: []*tree{g.expr(names, depth-1), g.expr(more, depth-1)}}
	case "need":
		own := inner(3)
		if g.Intn(2) == 0 {
			own[1] = own[0]
		}
		return &tree{op: op, own: own}
	case "if":
		return &tree{op: op, own: inner(3)}
	default:
		return &tree{op: op, own: inner(2)}
	}
}

// full is an expression as text, with brackets round all that has parts.
func (e *tree) full() string {
	own := make([]string, len(e.own))
	for i, inner := range e.own {
		own[i] = inner.full()
	}
	switch e.op {
	case "number":
		return fmt.Sprint(e.number)
	case "name":
		return e.name
	case "call":
		return e.name + "(" + strings.Join(own, ", ") + ")"
	case "minus":
		return "(-" + own[0] + ")"
	case "let":
		return "(let " + e.name + " = " + own[0] + "; " + own[1] + ")"
	case "need":
		return "(need " + own[0] + " == " + own[1] + "; " + own[2] + ")"
	case "if":
		return "(if " + own[0] + " then " + own[1] + " else " + own[2] + ")"
	}
	return "(" + own[0] + " " + e.op + " " + own[1] + ")"
}

func (e *tree) weight() int {
	n := 1
	for _, inner := range e.own {
		n += inner.weight()
	}
	return n
}

// text is a program with brackets round all that has parts.
func text(routines []routine) string {
	out := ""
	for _, f := range routines {
		out += "fn " + f.name + "(" + strings.Join(f.names, ", ") + ") = " + f.body.full() + "\n"
	}
	return out
}

// goer goes through a program: what it is over, what is left of its fuel, and how it ended, if it did.
type goer struct {
	routines []routine
	p        *big.Int
	parts    int
	fuel     int
	ended    api.Errno
}

// value is what an expression comes to; nil: the program ended.
func (g *goer) value(e *tree, names map[string]*big.Int) *big.Int {
	if g.parts == g.fuel {
		g.ended = api.ErrLong
		return nil
	}
	g.parts++
	switch e.op {
	case "number":
		return g.element(big.NewInt(int64(e.number)))
	case "name":
		return names[e.name]
	case "if":
		asked := g.value(e.own[0], names)
		if asked == nil {
			return nil
		}
		return g.value(e.own[2-asked.Cmp(new(big.Int))], names)
	case "let":
		is := g.value(e.own[0], names)
		if is == nil {
			return nil
		}
		more := map[string]*big.Int{e.name: is}
		for n, v := range names {
			more[n] = v
		}
		return g.value(e.own[1], more)
	}
	return g.reckon(e, names)
}

func (g *goer) element(n *big.Int) *big.Int { return n.Mod(n, g.p) }

// reckon is what an expression comes to all of whose parts are looked at, or all but what stands behind need.
func (g *goer) reckon(e *tree, names map[string]*big.Int) *big.Int {
	own := e.own
	if e.op == "need" {
		own = own[:2]
	}
	var is []*big.Int
	for _, inner := range own {
		v := g.value(inner, names)
		if v == nil {
			return nil
		}
		is = append(is, v)
	}
	out := new(big.Int)
	switch e.op {
	case "minus":
		return g.element(out.Neg(is[0]))
	case "+":
		return g.element(out.Add(is[0], is[1]))
	case "-":
		return g.element(out.Sub(is[0], is[1]))
	case "*":
		return g.element(out.Mul(is[0], is[1]))
	case "==":
		if is[0].Cmp(is[1]) == 0 {
			return out.SetInt64(1)
		}
		return out
	case "/":
		if is[1].Sign() == 0 {
			g.ended = api.ErrStuck
			return nil
		}
		return g.element(out.Mul(is[0], out.ModInverse(is[1], g.p)))
	case "need":
		if is[0].Cmp(is[1]) != 0 {
			g.ended = api.ErrStuck
			return nil
		}
		return g.value(e.own[2], names)
	}
	return g.call(e.name, is)
}

// call is what a function comes to.
func (g *goer) call(name string, args []*big.Int) *big.Int {
	for _, f := range g.routines {
		if f.name == name {
			own := map[string]*big.Int{}
			for i, n := range f.names {
				own[n] = args[i]
			}
			return g.value(f.body, own)
		}
	}
	panic("no function " + name)
}

func TestG3AllProgramsArePrintedAndWeighed(t *testing.T) {
	r := rand.New(rand.NewSource(1))
	for range 3000 {
		routines := grown(r)
		full := text(routines)
		if len(full) > api.MaxText {
			continue
		}
		p := program(t, full)
		shape := p.Full()
		if shape != full {
			t.Fatalf("%q is read as %q", full, shape)
		}
		noneNeedless(t, p)
		weight, names := 0, []string{}
		for _, f := range routines {
			weight += len(f.names) + f.body.weight()
			names = append(names, f.name)
		}
		same(t, p.Weight(), weight, "Weight of %q", full)
		same(t, p.Functions(), names, "Functions of %q", full)
	}
}

func TestG5AllProgramsComeToWhatTheWordsSay(t *testing.T) {
	r := rand.New(rand.NewSource(2))
	met := map[api.Errno]int{}
	for range 20000 {
		routines := grown(r)
		full := text(routines)
		if len(full) > api.MaxText {
			continue
		}
		prime := primes[r.Intn(len(primes))]
		fuel := r.Intn(40)
		if r.Intn(3) == 0 {
			fuel = r.Intn(400)
		}
		p := program(t, full)
		args := make([]int, p.Args())
		given := make([]*big.Int, len(args))
		g := &goer{routines: routines, p: big.NewInt(int64(prime)), fuel: fuel}
		for i := range args {
			args[i] = []int{r.Intn(4), -r.Intn(4), int(r.Uint64()), r.Intn(prime)}[r.Intn(4)]
			given[i] = g.element(big.NewInt(int64(args[i])))
		}
		want := api.Value{}
		if is := g.call("main", given); is != nil {
			want = api.Value{Is: int(is.Int64()), Parts: g.parts}
		}
		met[g.ended]++
		got, err := p.Eval(fieldOf(t, prime), args, fuel)
		if plain.Told(err) != g.ended || got != want {
			t.Fatalf("Eval of %q over %d with %v, fuel %d: got %v, error %v, want %v, error %v", full, prime, args, fuel, got, err, want, g.ended)
		}
	}
	for _, e := range []api.Errno{api.OK, api.ErrStuck, api.ErrLong} {
		if met[e] < 1000 {
			t.Errorf("%v was met only %d times", e, met[e])
		}
	}
}

// spoilt is a text in which something was put, taken away, or exchanged.
func spoilt(r *rand.Rand, text string) string {
	tokens := words(text)
	i, j := r.Intn(len(tokens)), r.Intn(len(tokens))
	a, b := tokens[i], tokens[j]
	switch r.Intn(7) {
	case 5, 6:
		return renamed(r, text)
	case 0:
		return text[:a.at] + text[a.at+len(a.text):]
	case 1:
		return text[:a.at] + b.text + text[a.at+len(a.text):]
	case 2:
		return text[:a.at] + b.text + " " + text[a.at:]
	case 3:
		return text[:a.at]
	}
	return text[:a.at] + pieces[r.Intn(len(pieces))] + text[a.at:]
}

// renamed is a text in which a name stands in the place of another one.
func renamed(r *rand.Rand, text string) string {
	var all []lexeme
	for _, l := range words(text) {
		if l.kind == "name" {
			all = append(all, l)
		}
	}
	if len(all) == 0 {
		return text
	}
	a, b := all[r.Intn(len(all))], all[r.Intn(len(all))]
	return text[:a.at] + b.text + text[a.at+len(a.text):]
}

// deep is a text of many levels within one another.
func deep(r *rand.Rand) string {
	open, close := "fn f(a) = a fn g(a, b, c) = b fn main() = ", ""
	after := false // a part has to stand next
	for i := range 50 + r.Intn(30) {
		f := forms[r.Intn(len(forms))]
		if after && f.ahead == "" && f.token != "(" && f.token != "-" {
			f = forms[r.Intn(4)]
		}
		after = f.token == "-" || strings.HasSuffix(f.behind, "* ")
		open += strings.ReplaceAll(f.ahead+f.token+f.behind, "%", fmt.Sprint(i))
		close = f.close + close
	}
	return open + "1" + close
}

func TestG2AllFaultsAreAsTheWordsSay(t *testing.T) {
	r := rand.New(rand.NewSource(3))
	met := map[api.Errno]int{}
	for i := range 4000 {
		text := text(grown(r))
		switch p, _, err := source.Parse(text); {
		case i%10 == 0:
			text = deep(r)
		case i%2 == 0 && err == nil:
			text = p.Print()
		}
		if len(text) > 1500 {
			continue
		}
		for range r.Intn(4) {
			text = spoilt(r, text)
		}
		at, is := firstFault(text)
		met[is]++
		p, where, err := source.Parse(text)
		if plain.Told(err) != is || where != at || (p == nil) != (err != nil) {
			t.Fatalf("Parse of %q: got the error %v at %d, want %v at %d", text, err, where, is, at)
		}
		if p != nil {
			noneNeedless(t, p)
		}
	}
	for _, e := range []api.Errno{api.OK, api.ErrSyntax, api.ErrRange, api.ErrSame, api.ErrName, api.ErrFull} {
		if met[e] < 20 {
			t.Errorf("%v was met only %d times", e, met[e])
		}
	}
}
