package rules_test

import (
	"fmt"
	"math/rand"
	"testing"

	"attest/api"
	"attest/field"
	"attest/lower"
	"attest/rules"
	"attest/source"
)

var primes = []int{3, 5, 7, 17, 97, 257, 12289, 2013265921, 2147483647}

func fieldOf(t *testing.T, p int) *field.Field {
	t.Helper()
	f, err := field.New(p)
	if err != nil {
		t.Fatalf("field.New(%d): %v", p, err)
	}
	return f
}

func same(t *testing.T, got, want any, what string, args ...any) {
	t.Helper()
	if g, w := fmt.Sprint(got), fmt.Sprint(want); g != w {
		t.Errorf("%s: got %s, want %s", fmt.Sprintf(what, args...), g, w)
	}
}

// code is that of a size, and of some numbers, four an instruction.
func code(size int, numbers ...int) api.Code {
	c := api.Code{Size: size}
	for i := 0; i < len(numbers); i += 4 {
		c.List = append(c.List, api.Ins{Op: numbers[i], A: numbers[i+1], B: numbers[i+2], C: numbers[i+3]})
	}
	return c
}

// five is the code that the document speaks of.
func five() api.Code { return code(1, api.OpSet, 0, 5, 0, api.OpHalt, 0, 0, 0) }

// table gives rows, which there are, and their outcome.
func table(t *testing.T, p int, c api.Code, n int) ([][]int, int) {
	t.Helper()
	rows, outcome, err := rules.Table(fieldOf(t, p), c, n)
	if err != nil || len(rows) != n {
		t.Fatalf("Table of %v over %d with %d: %d rows, error %v", c, p, n, len(rows), err)
	}
	return rows, outcome
}

// programs have code in which each Op has a place.
var programs = []struct {
	text  string
	input []int
}{
	{"fn main(n) = if n then n * main(n - 1) else 1", []int{3}},
	{"fn main(a, b) = if a == b then a / 2 else main(b, b)", []int{3, 4}},
	{"fn main(n) = let d = n + n; need d == 2 * n; d * d - 2", []int{9}},
	{"fn main(n) = twice(twice(n)) fn twice(n) = n + n", []int{5}},
	{"fn main() = if 0 then 1 / 0 else 7", nil},
}

// codeOf is the code of a program with its input.
func codeOf(t *testing.T, p int, text string, input []int) api.Code {
	t.Helper()
	f := fieldOf(t, p)
	program, at, err := source.Parse(text)
	if err != nil {
		t.Fatalf("Parse of %q: error %v at %d", text, err, at)
	}
	c, err := lower.Code(f, program)
	if err != nil {
		t.Fatalf("Code of %q: error %v", text, err)
	}
	if c, err = lower.With(f, c, input); err != nil {
		t.Fatalf("With of %q and %v: error %v", text, input, err)
	}
	return c
}

// wildCode has instructions that are quite arbitrary, with some that tell cells ahead of them, so that not all look at what
// is untold.
func wildCode(r *rand.Rand, p int) api.Code {
	c := api.Code{Size: r.Intn(5)}
	for i := range r.Intn(3) {
		c.List = append(c.List, api.Ins{Op: api.OpSet, A: i, B: r.Intn(4) - 1})
	}
	for range r.Intn(5) {
		c.List = append(c.List, api.Ins{Op: r.Intn(14), A: r.Intn(6) - 2, B: r.Intn(6) - 1, C: r.Intn(6) - 1})
	}
	if r.Intn(9) == 0 {
		c.List = append(c.List, api.Ins{Op: r.Intn(30) - 5, A: r.Intn(p), B: -r.Intn(p), C: r.Intn(9)})
	}
	if r.Intn(9) > 0 {
		c.List = append(c.List, api.Ins{Op: api.OpHalt, A: r.Intn(4) - 1})
	}
	return c
}

func TestTableOfTheDocument(t *testing.T) {
	same(t, rules.Width(five()), 22, "Width")
	rows, outcome := table(t, 97, five(), 2)
	same(t, outcome, 5, "the outcome")
	same(t, rows, [][]int{
		{1, 2, 0, 1, 0, 0, 0, 5, 0, 0, 0, 0, 0, 0, 0, 0, 0, 0, 0, 0, 1, 0},
		{1, 2, 0, 1, 0, 0, 0, 5, 0, 0, 0, 0, 0, 0, 1, 1, 0, 0, 5, 5, 0, 1},
	}, "the rows")
	same(t, rules.Broken(fieldOf(t, 97), five(), 5, rows), api.Broken{Rule: -1}, "Broken")
	same(t, rules.Alike(fieldOf(t, 97), rows), true, "Alike")
}

func TestR1Width(t *testing.T) {
	for _, n := range []int{0, 1, 2, 64, 65, 5000} {
		same(t, rules.Width(api.Code{Size: -1, List: make([]api.Ins, n)}), 20+n, "Width of %d", n)
	}
}
