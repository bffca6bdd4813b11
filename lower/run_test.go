package lower_test

import (
	"fmt"
	"math"
	"math/rand"
	"strings"
	"testing"

	"attest/api"
	"attest/lower"
	"attest/machine"
	"attest/plain"
	"attest/source"
)

// limit is that of N2; and whether N2 promises something of so many parts.
func limit(prime int, p *source.Program, parts int) (int, bool) {
	steps := 10 * (parts + p.Args() + 2)
	return steps, (parts+2)*(p.Weight()+p.Args()+8) < prime && steps <= api.MaxSteps
}

// leastPrime is the first prime for which N2 promises something of so many parts.
func leastPrime(p *source.Program, parts int) int {
	return primeFrom((parts+2)*(p.Weight()+p.Args()+8) + 1)
}

// run runs what a program is lowered to.
func run(t *testing.T, prime int, p *source.Program, args []int, limit int) (api.Ran, error) {
	t.Helper()
	f := fieldOf(t, prime)
	c, err := lower.With(f, codeOf(t, prime, p), args)
	if err != nil {
		t.Fatalf("With of the code of %q over %d and %v: error %v", p.Print(), prime, args, err)
	}
	return machine.Run(f, c, limit)
}

// holds sees that N2 holds for a program, and gives what Eval answers; whether N2 promises anything of it.
func holds(t *testing.T, prime int, p *source.Program, args []int, fuel int) (api.Value, error, bool) {
	t.Helper()
	value, err := p.Eval(fieldOf(t, prime), args, fuel)
	parts := value.Parts
	if err != nil {
		parts = fuel
	}
	limit, ok := limit(prime, p, parts)
	if !ok || plain.Told(err) == api.ErrLong {
		return value, err, false
	}
	ran, stuck := run(t, prime, p, args, limit)
	if plain.Told(stuck) != plain.Told(err) || ran.Outcome != value.Is {
		t.Fatalf("%q over %d with %v, fuel %d: Eval %v, error %v; Run with %d: %d, error %v", p.Print(), prime, args, fuel, value, err, limit, ran.Outcome, stuck)
	}
	return value, err, true
}

// comesTo sees that code comes to what its program comes to, over the least prime for which it has to, and others.
func comesTo(t *testing.T, text string, args []int, want int, more ...int) {
	t.Helper()
	p := program(t, text)
	value, err := p.Eval(fieldOf(t, great), args, api.MaxSteps)
	if err != nil || value.Is != want {
		t.Fatalf("Eval of %q with %v: got %d, error %v, want %d", text, args, value.Is, err, want)
	}
	for _, prime := range append(more, leastPrime(p, value.Parts), great) {
		for _, fuel := range []int{value.Parts, api.MaxSteps} {
			if _, err, ok := holds(t, prime, p, args, fuel); !ok || err != nil {
				t.Errorf("%q over %d with %v: N2 does not promise anything, error %v", text, prime, args, err)
			}
		}
	}
}

// getsStuck sees that code is stuck where its program is.
func getsStuck(t *testing.T, text string, args []int, fuel int) {
	t.Helper()
	p := program(t, text)
	for _, prime := range []int{leastPrime(p, fuel), great} {
		if _, err, ok := holds(t, prime, p, args, fuel); !ok || plain.Told(err) != api.ErrStuck {
			t.Errorf("%q over %d with %v: error %v, promised %v", text, prime, args, err, ok)
		}
	}
}

func TestN2Values(t *testing.T) {
	for _, c := range []struct {
		text string
		is   int
	}{
		{"5", 5}, {"0", 0}, {"2147483647", 0}, {"9223372036854775807", math.MaxInt % great}, {"-5", great - 5}, {"-0", 0}, {"--5", 5}, {"---a", great - 10},
		{"a", 10}, {"b", 20}, {"a + b", 30}, {"b - a", 10}, {"a * b", 200}, {"b / a", 2}, {"0 / a", 0}, {"a * b + b / a - 1", 201},
		{"a == b", 0}, {"a == a", 1}, {"a == 2147483657", 1}, {"(a == a) + (b == b)", 2}, {"a + b == b + a", 1},
		{"let x = a + b; x * x", 900}, {"let x = 1; b", 20}, {"let x = let x = a; x + 1; x + 1", 12}, {"(let x = a; x) - (let x = b; x)", great - 10},
		{"let x = a; let y = x; let z = y; x + y + z", 30}, {"let x = let y = a; y; let y = b; x - y", great - 10},
		{"need a == a; b", 20}, {"need a == 10; need b == 20; a + b", 30}, {"(need a == 10; a) + (need b == 20; b)", 30},
		{"if a then b else 1 / 0", 20}, {"if 0 then 1 / 0 else b", 20}, {"if a == b then 1 else 2", 2}, {"if a - b then 1 else 2", 1}, {"if a then a else b", 10}, {"if 0 then a else b", 20},
		{"if a then if 0 then 1 else 2 else 3", 2}, {"if 0 then 1 else if a then 2 else 3", 2}, {"(if a then 1 else 2) + (if 0 then 3 else 4)", 5},
		{"let x = if a then a * a + 1 else b; x - (if 0 then x else let y = x + 1; y)", great - 1}, {"if if a then 0 else 1 then 2 else 3", 3},
		{"if a then (need a == b - 10; let y = b + b; y) else 7 + 7 * 7", 40}, {"(if 0 then 1 + 2 + 3 else 4) + (5 + 6)", 15},
		{"g()", 7}, {"f(1, 2)", great - 1}, {"f(b, a)", 10}, {"f(f(1, 2), g())", great - 8}, {"f(f(a, b), f(b, a))", great - 20}, {"f(g(), f(1, f(g(), g())))", 6}, {"-f(1, 2)", 1},
		{"let x = 5; f(x, x)", 0}, {"h(0)", 1}, {"h(1)", 0}, {"h(h(1))", 1}, {"f(if a then b else a, let x = a; x)", 10}, {"let f = f(b, a); f(f, 1)", 9}, {"g() + g() * g() - g() / g()", 55},
		{"need g() == 7; if f(a, a) then a / 0 else g()", 7}, {"let main = a; if main then main else b", 10},
	} {
		comesTo(t, inMain(c.text), []int{10, 20}, c.is)
	}
}

func TestN2AllShapes(t *testing.T) {
	for _, s := range shapes {
		for _, args := range [][]int{{10, 20}, {1, 1}, {-1, 3}, {math.MaxInt, math.MinInt}, {0, 5}} {
			p := program(t, inMain(s))
			for _, prime := range []int{997, 12289, 2013265921, great} {
				value, err, ok := holds(t, prime, p, args, 100)
				if !ok && prime > 12289 {
					t.Errorf("%q over %d with %v: %v, error %v, of which N2 promises nothing", s, prime, args, value, err)
				}
			}
		}
	}
}

func TestN2Programs(t *testing.T) {
	comesTo(t, "fn main() = 5", nil, 5, 29)
	comesTo(t, "fn main(a) = a", []int{-1}, great-1, 37)
	comesTo(t, "fn main(a, b, c) = b", []int{4, 5, 6}, 5)
	comesTo(t, factorial, []int{0}, 1)
	comesTo(t, factorial, []int{7}, 5040)
	comesTo(t, "fn main(n) = if n then even(n - 1) else 0 fn even(n) = if n then main(n - 1) else 1", []int{31}, 1)
	comesTo(t, "fn main(n) = if n then even(n - 1) else 0 fn even(n) = if n then main(n - 1) else 1", []int{32}, 0)
	comesTo(t, "fn g(n, x, y) = if n == 0 then x else g(n - 1, y, x + y) fn main(n) = g(n, 0, 1)", []int{30}, 832040)
	comesTo(t, "fn main(n) = if n * (n - 1) then main(n - 1) + main(n - 2) else n", []int{8}, 21)
	comesTo(t, "fn main(a, b) = let q = a / b; need q * b == a; q + 0", []int{21, 3}, 7)
	comesTo(t, "fn main(a, b) = let c = f(b, a); c + a fn f(a, b) = let c = a; c - b", []int{1, 9}, 9)
	comesTo(t, "fn main(main) = let f = f(main); f fn f(f) = f + 1", []int{1}, 2)
	comesTo(t, "fn main(n) = if n then let m = main(n - 1); m + n else 0", []int{40}, 820)
	comesTo(t, "fn a(m, n) = if m then if n then a(m - 1, a(m, n - 1)) else a(m - 1, 1) else n + 1 fn main(m, n) = a(m, n)", []int{2, 1}, 5)
	// More than one call among the parts of a call, each of which calls others.
	comesTo(t, "fn s(a, b, c) = a + 10 * b + 100 * c fn t(n) = if n then s(t(n - 1), n, t(n - 1)) else 1 fn main() = s(t(1), t(2), t(3))", nil, 111+10*11231+100*1134361)
}

func TestN2OneStepForEachArg(t *testing.T) {
	for _, n := range []int{1, 10, 200, 500} {
		names, args, sum := []string{}, []int{}, "0"
		for i := range n {
			names = append(names, fmt.Sprint("a", i))
			args = append(args, i*i)
		}
		for i := range 5 {
			sum += fmt.Sprint(" + a", i*(n-1)/4)
		}
		want := 0
		for i := range 5 {
			want += args[i*(n-1)/4]
		}
		comesTo(t, "fn main("+strings.Join(names, ",")+") = "+sum, args, want)
	}
}

func TestN2AsManyStepsAsMayBe(t *testing.T) {
	// 8 n + 3 parts, so that 10 (8 n + 6) is the limit: 204 is the last n of which N2 speaks.
	p := program(t, factorial)
	want := 1
	for i := range 204 {
		want = want * (i + 1) % great
	}
	comesTo(t, factorial, []int{204}, want)
	if _, _, ok := holds(t, great, p, []int{205}, api.MaxSteps); ok {
		t.Errorf("N2 speaks of too many parts")
	}
	// Nothing but calls, of the shortest functions that there are, and nothing but copies.
	for _, text := range []string{"fn f() = 1 fn main() = f()" + strings.Repeat(" + f()", 400), "fn f(a) = -a fn main() = " + strings.Repeat("f(", 60) + "1" + strings.Repeat(")", 60)} {
		value, err := program(t, text).Eval(fieldOf(t, great), nil, api.MaxSteps)
		if err != nil {
			t.Fatal(err)
		}
		comesTo(t, text, nil, value.Is)
	}
}

func TestN2ManyParts(t *testing.T) {
	for _, n := range []int{1, 5, 60} {
		for i, text := range many(n) {
			p := program(t, text)
			args := make([]int, p.Args())
			for i := range args {
				args[i] = 3 + i
			}
			value, err := p.Eval(fieldOf(t, great), args, api.MaxSteps)
			if err != nil {
				t.Fatalf("Eval of %q: %v", text, err)
			}
			for _, prime := range []int{leastPrime(p, value.Parts), great} {
				if _, _, ok := holds(t, prime, p, args, value.Parts); !ok {
					t.Errorf("N2 says nothing of %d pieces of the text %d", n, i)
				}
			}
		}
	}
}

func TestN2Stuck(t *testing.T) {
	for _, c := range []struct {
		text  string
		parts int // that are looked at till it is stuck
	}{
		{"1 / 0", 3}, {"0 / 0", 3}, {"1 / (a - a)", 5}, {"1 / 0 + main(a)", 4}, {"2 + 1 / 0 + main(a)", 6}, {"need 1 == 2; 3", 3}, {"need a == 2; main(a)", 3}, {"need a == a; need a == 2; a", 6},
		{"-(1 / 0)", 4}, {"(1 / 0) == (1 / 0)", 4}, {"let x = 1 / 0; main(a)", 4}, {"let x = a; x / 0", 5}, {"if 1 / 0 then main(a) else main(a)", 4}, {"if a then 1 / 0 else main(a)", 5}, {"if 0 then main(a) else 1 / 0", 5},
		{"main(1 / 0)", 4}, {"f(1 / 0, main(a))", 4}, {"f(a, 0)", 6}, {"need 1 / 0 == main(a); 2", 4}, {"need 1 == 1 / 0; 2", 5}, {"(need 1 == 2; 3) / main(a)", 4}, {"f(a, f(0, 3)) + main(a)", 12},
		{"if a then need a == 6; main(a) else 1", 5}, {"f(f(a, a), f(a - 5, a)) * main(a)", 19}, {"main(f(a, a - 5))", 9},
	} {
		text := "fn main(a) = " + c.text + " fn f(a, b) = a / b"
		for _, fuel := range []int{c.parts, c.parts + 1, 30, 1000} {
			getsStuck(t, text, []int{5}, fuel)
		}
		if _, err := program(t, text).Eval(fieldOf(t, great), []int{5}, c.parts-1); plain.Told(err) != api.ErrLong {
			t.Errorf("%q with the fuel %d: error %v", text, c.parts-1, err)
		}
	}
	getsStuck(t, "fn main(n) = if n - 300 then main(n + 1) else 1 / 0", []int{100}, 1607)
	getsStuck(t, "fn main(a, b) = let q = a / b; need q * b == a; q + main(b, a)", []int{5, 0}, 9)
}

// grower draws programs, as text.
type grower struct {
	*rand.Rand
	args []int // how many names the functions have
	lets int
}

// grown draws a program: functions that call those behind them, or themselves with one less, and now and then any.
func grown(r *rand.Rand) string {
	g := &grower{Rand: r}
	for range 1 + r.Intn(4) {
		g.args = append(g.args, r.Intn(4))
	}
	out := ""
	for i, n := range g.args {
		names := []string{"a", "b", "c"}[:n]
		body := g.expr(i, names, 1+r.Intn(5))
		if n > 0 && r.Intn(2) == 0 {
			body = fmt.Sprintf("if %s then %s else %s", names[0], g.again(i, names), body)
		}
		out += "fn " + g.name(i) + "(" + strings.Join(names, ", ") + ") = " + body + "\n"
	}
	return out
}

func (g *grower) name(i int) string {
	if i == 0 {
		return "main"
	}
	return fmt.Sprint("f", i)
}

// again draws a call of a function within itself.
func (g *grower) again(i int, names []string) string {
	parts := []string{names[0] + " - 1"}
	for range names[1:] {
		parts = append(parts, g.expr(i, names, 2))
	}
	call := g.name(i) + "(" + strings.Join(parts, ", ") + ")"
	return []string{call, "(" + g.expr(i, names, 1) + ") * " + call, call + " + " + names[0]}[g.Intn(3)]
}

var someNumbers = []int{0, 0, 1, 1, 2, 3, 5, 96, 97, 98, 1000000007, math.MaxInt}

// expr draws an expression of a function, in which some names stand for something.
func (g *grower) expr(i int, names []string, depth int) string {
	if depth == 0 || g.Intn(8) == 0 {
		if len(names) > 0 && g.Intn(3) > 0 {
			return names[g.Intn(len(names))]
		}
		return fmt.Sprint(someNumbers[g.Intn(len(someNumbers))])
	}
	inner := func() string { return "(" + g.expr(i, names, depth-1) + ")" }
	switch op := []string{"+", "-", "*", "/", "==", "minus", "let", "need", "if", "if", "call", "call"}[g.Intn(12)]; op {
	case "minus":
		return "-" + inner()
	case "call":
		return g.call(i, inner)
	case "let":
		g.lets++
		name := fmt.Sprint("x", g.lets%3+3*depth) // names come again, but not within one another
		more := append(names[:len(names):len(names)], name)
		return "let " + name + " = " + g.expr(i, names, depth-1) + "; " + g.expr(i, more, depth-1)
	case "need":
		same := inner()
		return "need " + same + " == " + []string{same, same, inner()}[g.Intn(3)] + "; " + inner()
	case "if":
		return "if " + inner() + " then " + inner() + " else " + inner()
	default:
		return inner() + " " + op + " " + inner()
	}
}

func (g *grower) call(i int, inner func() string) string {
	called := i + 1
	if g.Intn(6) == 0 {
		called = g.Intn(len(g.args))
	}
	if called >= len(g.args) {
		return inner()
	}
	parts := make([]string, g.args[called])
	for i := range parts {
		parts[i] = inner()
	}
	return g.name(called) + "(" + strings.Join(parts, ", ") + ")"
}

func TestN2AllProgramsComeToWhatEvalSays(t *testing.T) {
	r := rand.New(rand.NewSource(12))
	met, tight := map[api.Errno]int{}, 0
	for range 20000 {
		p, _, err := source.Parse(grown(r))
		if err != nil {
			continue
		}
		args := make([]int, p.Args())
		for i := range args {
			args[i] = []int{r.Intn(4), -r.Intn(4), int(r.Uint64()), r.Intn(30)}[r.Intn(4)]
		}
		fuel := r.Intn(1000)
		prime := []int{97, 997, 12289, 65537, 2013265921, great}[r.Intn(6)]
		if r.Intn(2) == 0 { // as small as may be
			value, _ := p.Eval(fieldOf(t, great), args, fuel)
			if value.Parts > 0 {
				fuel = value.Parts
			}
			prime = leastPrime(p, fuel)
		}
		if c, err := lower.Code(fieldOf(t, prime), p); err != nil && (asks(p) <= min(prime, api.MaxCode) || len(c.List) > 0) {
			t.Fatalf("Code of %q over %d: %v, error %v", p.Print(), prime, c, err)
		} else if err != nil {
			continue
		}
		value, err, ok := holds(t, prime, p, args, fuel)
		if !ok {
			continue
		}
		met[plain.Told(err)]++
		if prime == leastPrime(p, max(value.Parts, 1)) {
			tight++
		}
	}
	if met[api.OK] < 3000 || met[api.ErrStuck] < 1000 || tight < 1000 {
		t.Errorf("met %v, %d of them over the least prime", met, tight)
	}
}
