package lower_test

import (
	"fmt"
	"math"
	"slices"
	"strings"
	"testing"

	"attest/api"
	"attest/field"
	"attest/lower"
	"attest/machine"
	"attest/plain"
	"attest/source"
)

var primes = []int{3, 5, 7, 17, 97, 257, 12289, 65537, 2013265921, 2147483647}

const (
	great     = 2147483647
	factorial = "fn main(n) = if n then n * main(n - 1) else 1"
)

func fieldOf(t *testing.T, p int) *field.Field {
	t.Helper()
	f, err := field.New(p)
	if err != nil {
		t.Fatalf("field.New(%d): %v", p, err)
	}
	return f
}

// primeFrom is the first prime that is no less than a number.
func primeFrom(n int) int {
	for {
		if _, err := field.New(n); err == nil {
			return n
		}
		n++
	}
}

// primeBelow is the last prime that is less than a number, which is above 3.
func primeBelow(n int) int {
	for n--; ; n-- {
		if _, err := field.New(n); err == nil {
			return n
		}
	}
}

// program reads a text that is a program.
func program(t *testing.T, text string) *source.Program {
	t.Helper()
	p, at, err := source.Parse(text)
	if err != nil {
		t.Fatalf("Parse of %q: error %v at %d", text, err, at)
	}
	return p
}

// codeOf is the code of a program, which there is.
func codeOf(t *testing.T, prime int, p *source.Program) api.Code {
	t.Helper()
	c, err := lower.Code(fieldOf(t, prime), p)
	if err != nil {
		t.Fatalf("Code of %q over %d: error %v", p.Print(), prime, err)
	}
	return c
}

func same(t *testing.T, got, want any, what string, args ...any) {
	t.Helper()
	if g, w := fmt.Sprint(got), fmt.Sprint(want); g != w {
		t.Errorf("%s: got %s, want %s", fmt.Sprintf(what, args...), g, w)
	}
}

// code is that of some numbers, four an instruction.
func code(size int, numbers ...int) api.Code {
	c := api.Code{Size: size}
	for in := range slices.Chunk(numbers, 4) {
		c.List = append(c.List, api.Ins{Op: in[0], A: in[1], B: in[2], C: in[3]})
	}
	return c
}

func TestTableOfTheDocument(t *testing.T) {
	f := fieldOf(t, 97)
	c, err := lower.With(f, codeOf(t, 97, program(t, factorial)), []int{3})
	if err != nil {
		t.Fatal(err)
	}
	ran, err := machine.Run(f, c, 400)
	if err != nil || ran.Outcome != 6 {
		t.Errorf("got %d, error %v, want 6", ran.Outcome, err)
	}
	two := code(1, api.OpSet, 0, 0, 0, api.OpHalt, 0, 0, 0)
	makes(t, 97, two, []int{98}, code(1, api.OpSet, 0, 1, 0, api.OpHalt, 0, 0, 0))
	makesNone(t, 97, two, []int{1, 2})
}

// shapes are expressions within main(a, b), beside f(a, b), g() and h(x), and many of their parts are of one kind.
var shapes = []string{
	"a", "5", "-a", "-----5", "--a", "a + b", "1 + 2 + 3 + 4", "a * (b * (a * (b * 2)))", "a / b", "a == b", "1 == 1",
	"if a then b else a", "if 0 then 1 else 2", "if if a then b else a then if a then b else a else if a then b else a",
	"-(if a then a else a)", "if a then if b then a else b else if b then b else a", "(if a then a else b) + (if b then b else a)",
	"let x = a; x", "let x = 1; let y = 2; x", "(let x = a; x) + (let x = b; x)", "let x = let x = let x = 1; x; x; x",
	"need a == a; b", "need 1 == 1; need a == a; need b == b; 3", "-(need a == a; b)",
	"g()", "f(a, b)", "f(1, 2)", "f(f(1, 2), f(3, g()))", "f(f(f(f(1, 2), 3), 4), 5)", "f(1, f(2, f(3, f(4, 5))))", "h(0) + h(1)",
	"f(if a then b else a, let x = a; x)", "f(need a == a; b, -1)", "if f(a, b) then g() else h(a)", "let f = f(a, b); f(f, f)",
	"need g() == g(); if a == b then 1 else let x = g(); x * x", "h(h(h(h(a))))", "g() + g() * g() - g() / g()",
}

const beside = " fn f(a, b) = a - b fn g() = 7 fn h(x) = if x == 0 then 1 else 0"

// inMain is the program of which one of the shapes is main's.
func inMain(shape string) string { return "fn main(a, b) = " + shape + beside }

// many are the texts of great programs, each of so many pieces.
func many(n int) []string {
	again := strings.Repeat
	texts := []string{
		"fn main() = 1" + again("+1", n), "fn main() = -1" + again("--1", n), "fn main(a) = a" + again("*a", n), "fn main(a) = ---a" + again("+---a", n),
		"fn f() = 1 fn main() = f()" + again("+f()", n), "fn f(a) = a fn main() = f(1)" + again("+f(1)", n), "fn f(a, b) = a fn main(c) = f(-c,-c)" + again("+f(-c,-c)", n),
		"fn main(a) = a" + again("+(if a then a else a)", n), "fn main(a) = a" + again("+(let x=a;x)", n), "fn main(a) = a" + again("-(need a==a;a)", n),
	}
	functions, names, called := "", "a", "1"
	for i := range n {
		functions += fmt.Sprintf("fn f%d(a)=a ", i)
		names += fmt.Sprintf(",a%d", i)
		called += ",1"
	}
	return append(texts, functions+"fn main() = 7", "fn main("+names+") = a", "fn main() = f("+called+") fn f("+names+") = a", "fn f("+names+") = a fn main() = 7")
}

// asks is what N1 asks, so that a program is not too great.
func asks(p *source.Program) int { return 10*p.Weight() + 2*p.Args() + 10 }

func TestN1FirstInstructions(t *testing.T) {
	texts := []string{"fn main() = 1", factorial, "fn f(a, b) = a fn main(a, b, c) = f(b, main(a, b, c))"}
	for _, s := range shapes {
		texts = append(texts, inMain(s))
	}
	for _, text := range append(texts, many(30)...) {
		p := program(t, text)
		for _, prime := range []int{primeFrom(asks(p)), 12289, great} {
			c := codeOf(t, prime, p)
			if len(c.List) <= p.Args() || len(c.List) > api.MaxCode || len(c.List) > prime || c.Size < 0 || c.Size > api.MaxSize {
				t.Fatalf("%q over %d: %d instructions, %d cells", text, prime, len(c.List), c.Size)
			}
			for i, in := range c.List[:p.Args()] {
				same(t, in, api.Ins{Op: api.OpSet, A: i}, "%q over %d: instruction %d", text, prime, i)
			}
		}
	}
}

func TestN1NumbersAreElements(t *testing.T) {
	for _, s := range append(shapes, "9223372036854775807", "97", "98", "2013265921", "2147483648") {
		p := program(t, inMain(s))
		for _, prime := range []int{primeFrom(asks(p)), 12289, great} {
			for i, in := range codeOf(t, prime, p).List {
				if min(in.A, in.B, in.C) < 0 || max(in.A, in.B, in.C) >= prime {
					t.Errorf("%q over %d: instruction %d is %v", s, prime, i, in)
				}
			}
		}
	}
	// A function that nobody calls may have more names than there are elements.
	c := codeOf(t, 11, program(t, "fn f(a, b, c, d, e, g, h, i, j, k, l, m, n) = n fn main() = 7"))
	for i, in := range c.List {
		if min(in.A, in.B, in.C) < 0 || max(in.A, in.B, in.C) >= 11 {
			t.Errorf("instruction %d is %v", i, in)
		}
	}
}

func TestN1NotFull(t *testing.T) {
	texts := []string{"fn main() = 1", "fn main(a) = a", factorial}
	for _, s := range shapes {
		texts = append(texts, inMain(s))
	}
	for _, n := range []int{1, 7, 30, 60} {
		texts = append(texts, many(n)...)
	}
	for _, text := range texts {
		p := program(t, text)
		if asks(p) > api.MaxCode {
			continue
		}
		for _, prime := range append(primes, primeFrom(asks(p))) {
			if c, err := lower.Code(fieldOf(t, prime), p); prime >= asks(p) && (err != nil || len(c.List) > prime) {
				t.Errorf("Code of %q over %d: %d instructions, error %v", text, prime, len(c.List), err)
			}
		}
	}
}

func TestN1AsGreatAsItMustTake(t *testing.T) {
	// 10 times 408, 2 times 3 and 10 are MaxCode.
	for _, each := range []string{"+1", "-a", "+--b", "*f()", "+g(c)", "-(if a then b else c)", "-(if 1 then(if a then b else c)else c)", "/(let x=a;x)", "-(need a==b;c)"} {
		begin := "fn f() = 1 fn g(a) = a fn main(a, b, c) = "
		one := program(t, begin+"a").Weight()
		n := (408 - one) / (program(t, begin+"a"+each).Weight() - one)
		text := "a" + strings.Repeat(each, n)
		text = begin + strings.Repeat("-", 408-program(t, begin+text).Weight()) + text
		p := program(t, text)
		if asks(p) != api.MaxCode {
			t.Fatalf("%q asks %d", text, asks(p))
		}
		for _, prime := range []int{primeFrom(api.MaxCode), great} {
			if c := codeOf(t, prime, p); len(c.List) > api.MaxCode {
				t.Errorf("%q over %d: %d instructions", text, prime, len(c.List))
			}
		}
	}
}

// full sees that a program is too great.
func full(t *testing.T, prime int, p *source.Program) {
	t.Helper()
	c, err := lower.Code(fieldOf(t, prime), p)
	if plain.Told(err) != api.ErrFull || c.Size != 0 || len(c.List) != 0 {
		t.Errorf("Code of %q over %d: got %v, error %v, want ErrFull", p.Print(), prime, c, err)
	}
}

func TestN1Full(t *testing.T) {
	// There are at least as many instructions as main has names, and OpHalt.
	for _, prime := range []int{3, 5, 7, 17} {
		names := "a"
		for i := range prime - 1 {
			names += fmt.Sprint(", a", i)
		}
		full(t, prime, program(t, "fn main("+names+") = a"))
	}
	texts := append(many(9), factorial)
	for _, s := range shapes {
		texts = append(texts, inMain(s))
	}
	for _, text := range texts {
		p := program(t, text)
		n := len(codeOf(t, great, p).List)
		full(t, primeBelow(n), p)
		full(t, 3, p)
		if c := codeOf(t, primeFrom(n), p); len(c.List) != n {
			t.Errorf("%q: %d instructions over %d, but %d over %d", text, len(c.List), primeFrom(n), n, great)
		}
	}
}

func TestN1TheLongestTexts(t *testing.T) {
	for i := range many(1) {
		n := 1
		for len(many(n + 20)[i]) <= api.MaxText {
			n += 20
		}
		for len(many(n + 1)[i]) <= api.MaxText {
			n++
		}
		p := program(t, many(n)[i])
		c, err := lower.Code(fieldOf(t, great), p)
		if err != nil && (plain.Told(err) != api.ErrFull || asks(p) <= api.MaxCode) || len(c.List) > api.MaxCode {
			t.Errorf("%d pieces of the text %d: %d instructions, error %v", n, i, len(c.List), err)
		}
		full(t, 3, p)
	}
}

// makes sees what With answers.
func makes(t *testing.T, prime int, c api.Code, args []int, want api.Code) {
	t.Helper()
	got, err := lower.With(fieldOf(t, prime), c, args)
	if err != nil || got.Size != want.Size || !slices.Equal(got.List, want.List) {
		t.Errorf("With of %v over %d and %v: got %v, error %v, want %v", c, prime, args, got, err, want)
	}
}

// makesNone sees that With tells ErrSize, and nothing else.
func makesNone(t *testing.T, prime int, c api.Code, args []int) {
	t.Helper()
	got, err := lower.With(fieldOf(t, prime), c, args)
	if plain.Told(err) != api.ErrSize || got.Size != 0 || len(got.List) != 0 {
		t.Errorf("With of %v over %d and %v: got %v, error %v, want ErrSize", c, prime, args, got, err)
	}
}

func TestN1With(t *testing.T) {
	c := code(9, api.OpSet, 0, 50, 51, api.OpSet, 1, -60, -61, api.OpSet, 2, 70, math.MinInt, 99, math.MinInt, math.MaxInt, -1, api.OpHalt, 2, 3, 4)
	for _, prime := range primes {
		element := func(n int) int { return (n%prime + prime) % prime }
		for _, n := range []int{0, 1, -1, prime, prime - 1, prime + 1, -prime, math.MaxInt, math.MinInt} {
			makes(t, prime, c, nil, c)
			makes(t, prime, c, []int{}, c)
			want := code(9, api.OpSet, 0, element(n), 51, api.OpSet, 1, -60, -61, api.OpSet, 2, 70, math.MinInt, 99, math.MinInt, math.MaxInt, -1, api.OpHalt, 2, 3, 4)
			makes(t, prime, c, []int{n}, want)
			want.List[1].B = element(n + 1)
			makes(t, prime, c, []int{n, n + 1}, want)
			want.List[2].B = element(-n)
			makes(t, prime, c, []int{n, n + 1, -n}, want)
			makesNone(t, prime, c, []int{n, n + 1, -n, 0})
			makesNone(t, prime, c, []int{n, n + 1, -n, 0, 0})
			makesNone(t, prime, c, []int{n, n + 1, -n, 0, 0, 0})
		}
	}
}

func TestN1WithAnySizeAndNoInstruction(t *testing.T) {
	for _, size := range []int{0, -1, math.MinInt, math.MaxInt, api.MaxSize + 1} {
		makes(t, 97, code(size), nil, code(size))
		makesNone(t, 97, code(size), []int{0})
		makes(t, 97, code(size, api.OpSet, 0, 5, 6), []int{-7}, code(size, api.OpSet, 0, 90, 6))
		makes(t, 97, code(size, api.OpJump, 0, 0, 0), nil, code(size, api.OpJump, 0, 0, 0))
		makesNone(t, 97, code(size, api.OpSet, 0, 5, 6), []int{1, 2})
	}
}

func TestN1WithOnlyOpSetInOrder(t *testing.T) {
	for op := -2; op < 16; op++ {
		c := code(1, op, 0, 0, 0, api.OpSet, 1, 0, 0)
		if op == api.OpSet {
			makes(t, 97, c, []int{3}, code(1, op, 0, 3, 0, api.OpSet, 1, 0, 0))
			continue
		}
		makesNone(t, 97, c, []int{3})
		makesNone(t, 97, c, []int{3, 4})
		makesNone(t, 97, code(1, api.OpSet, 0, 0, 0, op, 1, 0, 0), []int{3, 4})
		makes(t, 97, code(1, api.OpSet, 0, 0, 0, op, 1, 0, 0), []int{3}, code(1, api.OpSet, 0, 3, 0, op, 1, 0, 0))
	}
	// The place has to be i itself: not what is taken for the same element.
	for _, a := range []int{1, -1, 97, -97, math.MinInt, math.MaxInt} {
		makesNone(t, 97, code(1, api.OpSet, a, 0, 0), []int{3})
		makesNone(t, 97, code(1, api.OpSet, 0, 0, 0, api.OpSet, a+1, 0, 0), []int{3, 4})
	}
	makesNone(t, 97, code(1, api.OpSet+97, 0, 0, 0), []int{3})
	// More of them than there are elements, or than the machine takes.
	var long, want []int
	args := make([]int, 5000)
	for i := range args {
		args[i] = i
		long = append(long, api.OpSet, i, 0, 0)
		want = append(want, api.OpSet, i, i%3, 0)
	}
	makes(t, 3, code(1, long...), args, code(1, want...))
}

func TestP2NothingIsWrittenOrKept(t *testing.T) {
	f := fieldOf(t, 97)
	list := code(1, api.OpSet, 0, 1, 0, api.OpSet, 1, 2, 0, api.OpHalt, 0, 0, 0, 7, 7, 7, 7).List
	was := slices.Clone(list)
	args := []int{98, -1, 5}
	for n := range 4 {
		got, _ := lower.With(f, api.Code{Size: 3, List: list[:3]}, args[:n:3])
		if !slices.Equal(list, was) || !slices.Equal(args, []int{98, -1, 5}) {
			t.Fatalf("With wrote: %v, %v", list, args)
		}
		for i := range got.List {
			got.List[i] = api.Ins{Op: -1}
		}
		_ = append(got.List, api.Ins{Op: -1})
		if !slices.Equal(list, was) {
			t.Fatalf("With answers what it was handed: %v", list)
		}
	}
	p := program(t, factorial)
	text := p.Print()
	first, again := codeOf(t, 97, p), codeOf(t, 97, p)
	same(t, again, first, "Code once more")
	for i := range first.List {
		first.List[i] = api.Ins{Op: -1}
	}
	_ = append(first.List, api.Ins{Op: -1})
	same(t, codeOf(t, 97, p), again, "Code behind a change of what it answered")
	same(t, p.Print(), text, "the program behind Code")
	// Code over one field does not hang on another one that was asked for ahead.
	codeOf(t, great, p)
	full(t, 3, p)
	same(t, codeOf(t, 97, p), again, "Code behind others")
}
