package source_test

import (
	"fmt"
	"math/rand"
	"slices"
	"strings"
	"testing"

	"attest/api"
	"attest/field"
	"attest/plain"
	"attest/source"
)

var primes = []int{3, 5, 7, 17, 97, 12289, 2013265921, 2147483647}

func fieldOf(t *testing.T, p int) *field.Field {
	t.Helper()
	f, err := field.New(p)
	if err != nil {
		t.Fatalf("field.New(%d): %v", p, err)
	}
	return f
}

func same(t *testing.T, got, want any, what string, args ...any) {
	t.Helper()
	if g, w := fmt.Sprint(got), fmt.Sprint(want); g != w {
		t.Errorf("%s: got %s, want %s", fmt.Sprintf(what, args...), g, w)
	}
}

// program reads a text that is a program.
func program(t *testing.T, text string) *source.Program {
	t.Helper()
	p, at, err := source.Parse(text)
	if err != nil || p == nil || at != 0 {
		t.Fatalf("Parse of %q: error %v at %d, the program is %v", text, err, at, p)
	}
	return p
}

// faulty sees that a text is no program, as its first fault is at a place.
func faulty(t *testing.T, text string, at int, want api.Errno) {
	t.Helper()
	p, where, err := source.Parse(text)
	if plain.Told(err) != want || where != at || p != nil {
		t.Errorf("Parse of %q: got the error %v at %d, want %v at %d", text, err, where, want, at)
	}
}

// faultAt sees that a text is no program; @ stands ahead of where its first fault is, and is not of the text.
func faultAt(t *testing.T, marked string, want api.Errno) {
	t.Helper()
	ahead, behind, ok := strings.Cut(marked, "@")
	if !ok {
		t.Fatalf("no place is marked in %q", marked)
	}
	faulty(t, ahead+behind, len(ahead), want)
}

// comesTo sees what Eval answers.
func comesTo(t *testing.T, p int, text string, args []int, fuel int, want api.Value) {
	t.Helper()
	got, err := program(t, text).Eval(fieldOf(t, p), args, fuel)
	if err != nil || got != want {
		t.Errorf("Eval of %q over %d with %v, fuel %d: got %v, error %v, want %v", text, p, args, fuel, got, err, want)
	}
}

// endsBy sees that Eval tells an error, and nothing else.
func endsBy(t *testing.T, p int, text string, args []int, fuel int, want api.Errno) {
	t.Helper()
	got, err := program(t, text).Eval(fieldOf(t, p), args, fuel)
	if plain.Told(err) != want || got != (api.Value{}) {
		t.Errorf("Eval of %q over %d with %v, fuel %d: got %v, error %v, want %v", text, p, args, fuel, got, err, want)
	}
}

const factorial = "fn main(n) = if n then n * main(n - 1) else 1"

func TestTableOfTheDocument(t *testing.T) {
	comesTo(t, 97, factorial, []int{3}, 100, api.Value{Is: 6, Parts: 27})
	// The table has ErrLong for 100 over 97, too; but 100 is 3 there, as G5 and P4 say, and the prime has to be greater.
	comesTo(t, 97, factorial, []int{100}, 99, api.Value{Is: 6, Parts: 27})
	endsBy(t, 12289, factorial, []int{100}, 99, api.ErrLong)
	p := program(t, "fn main()=(1-(2-3))*-(4+5)")
	same(t, p.Print(), "fn main() = (1 - (2 - 3)) * -(4 + 5)\n", "Print")
	same(t, p.Weight(), 10, "Weight")
	faulty(t, "fn main() = 1 == 2 == 3", 19, api.ErrSyntax)
	faulty(t, "fn main(a) = let a = 1; a", 17, api.ErrSame)
	faulty(t, "fn f() = g()", 9, api.ErrName)
	faulty(t, "fn f() = 007", 9, api.ErrSyntax)
}

// pieces are what texts are made of that are no programs, or hardly.
var pieces = []string{"fn ", "main", "f", "a", "b", "let ", "need ", "if ", " then ", " else ", "(", ")", ",", ";", "=", "==", "+", "-", "*", "/",
	"0", "1", "007", "9223372036854775808", "abcdefghijklmnopq", "_", "#", "\n", "\t", "\r", " ", "\x00", "\xff", "\u00e9", "fn main() = ", "let a = 1; "}

func TestP1AnyTextIsRead(t *testing.T) {
	r := rand.New(rand.NewSource(11))
	for range 20000 {
		text := ""
		for range r.Intn(30) {
			text += pieces[r.Intn(len(pieces))]
		}
		p, at, err := source.Parse(text)
		if (p == nil) != (err != nil) || at < 0 || at > len(text) || err == nil && at != 0 {
			t.Fatalf("Parse of %q: %v at %d, error %v", text, p, at, err)
		}
		told := plain.Told(err)
		if !slices.Contains([]api.Errno{api.OK, api.ErrSyntax, api.ErrRange, api.ErrSame, api.ErrName}, told) {
			t.Fatalf("Parse of %q: the error is %v", text, err)
		}
	}
}

func TestP1TheLongestChains(t *testing.T) {
	// As many parts within one another as a text can have, and as many names.
	for _, sign := range []string{"+", "-", "*"} {
		text := "fn main()=1" + strings.Repeat(sign+"1", 1994)
		p := program(t, text)
		same(t, p.Weight(), 2*1994+1, "Weight with %s", sign)
		same(t, p.Print(), "fn main() = 1"+strings.Repeat(" "+sign+" 1", 1994)+"\n", "Print with %s", sign)
		v, err := p.Eval(fieldOf(t, 97), nil, 2*1994+1)
		same(t, []any{v.Is, v.Parts, err}, []any{map[string]int{"+": 1995 % 97, "-": 97 - 1993%97, "*": 1}[sign], 3989, nil}, "Eval with %s", sign)
	}
	names := []string{}
	for i := range 600 {
		names = append(names, fmt.Sprintf("%c%02d", 'a'+i/100, i%100))
	}
	text := "fn main(" + strings.Join(names, ",") + ")=" + strings.Join(names[:390], "+")
	args := make([]int, 600)
	args[0] = 5
	comesTo(t, 97, text, args, 779, api.Value{Is: 5, Parts: 779})
}

func TestP2NothingIsWrittenOrKept(t *testing.T) {
	p := program(t, "fn f(a) = a * a fn main(a, b) = let c = f(a); c - b / a")
	behind := []int{4, -1, 7, 8}
	first, err := p.Eval(fieldOf(t, 97), behind[:2], 100)
	if err != nil || !slices.Equal(behind, []int{4, -1, 7, 8}) {
		t.Fatalf("error %v, the list is %v", err, behind)
	}
	clear(behind)
	p.Functions()[0] = "spoilt"
	same(t, p.Functions(), []string{"f", "main"}, "Functions once more")
	for range 3 {
		again, err := p.Eval(fieldOf(t, 97), []int{4, -1}, 100)
		if err != nil || again != first {
			t.Errorf("Eval once more gives %v, error %v, at first it gave %v", again, err, first)
		}
		_, err = p.Eval(fieldOf(t, 97), []int{0, 1}, 100)
		same(t, plain.Told(err), api.ErrStuck, "the error with 0")
		same(t, p.Print(), "fn f(a) = a * a\nfn main(a, b) = let c = f(a); c - b / a\n", "Print once more")
	}
}
