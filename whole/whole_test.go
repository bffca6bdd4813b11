package whole_test

import (
	"fmt"
	"math"
	"slices"
	"testing"

	"attest/api"
	"attest/domain"
	"attest/field"
	"attest/lower"
	"attest/plain"
	"attest/rules"
	"attest/source"
	"attest/whole"
)

const great = 2013265921 // 15 times 2^27, and 1

func fieldOf(t *testing.T, p int) *field.Field {
	t.Helper()
	f, err := field.New(p)
	if err != nil {
		t.Fatalf("field.New(%d): %v", p, err)
	}
	return f
}

func domainOf(t *testing.T, p, size, shift int) *domain.Domain {
	t.Helper()
	d, err := domain.New(fieldOf(t, p), size, shift)
	if err != nil {
		t.Fatalf("domain.New(%d, %d) over %d: %v", size, shift, p, err)
	}
	return d
}

func same(t *testing.T, got, want any, what string, args ...any) {
	t.Helper()
	if g, w := fmt.Sprint(got), fmt.Sprint(want); g != w {
		t.Errorf("%s: got %s, want %s", fmt.Sprintf(what, args...), g, w)
	}
}

// listed is code of a size, and of some numbers, four an instruction.
func listed(size int, numbers ...int) api.Code {
	c := api.Code{Size: size}
	for i := 0; i < len(numbers); i += 4 {
		c.List = append(c.List, api.Ins{Op: numbers[i], A: numbers[i+1], B: numbers[i+2], C: numbers[i+3]})
	}
	return c
}

// five is the code that the document speaks of.
func five() api.Code { return listed(1, api.OpSet, 0, 5, 0, api.OpHalt, 0, 0, 0) }

// quotient is code that is run in three steps, with an h that is not 0.
func quotient() api.Code {
	return listed(3, api.OpSet, 0, 12, 0, api.OpSet, 1, -5, 0, api.OpDiv, 0, 1, 2, api.OpHalt, 2, 0, 0)
}

// everyOp is code in which each Op is done, OpZero both ways. Its outcome is 6.
func everyOp() api.Code {
	return listed(9,
		api.OpSet, 0, 6, 0,
		api.OpSet, 1, 2, 0,
		api.OpAdd, 0, 1, 2,
		api.OpSub, 0, 1, 3,
		api.OpMul, 2, 3, 4,
		api.OpDiv, 4, 1, 5,
		api.OpSame, 0, 1, 6,
		api.OpSame, 0, 0, 7,
		api.OpMust, 0, 0, 0,
		api.OpZero, 6, 11, 0,
		api.OpHalt, 0, 0, 0,
		api.OpZero, 7, 10, 0,
		api.OpPass, 0, 0, 0,
		api.OpCall, 16, 2, 0,
		api.OpTake, 8, 0, 0,
		api.OpJump, 18, 0, 0,
		api.OpAdd, 0, 0, 1,
		api.OpBack, 0, 0, 0,
		api.OpHalt, 8, 0, 0)
}

// longest is code with as many instructions as may be, which is run in 64 rows.
func longest() api.Code {
	list := slices.Repeat([]api.Ins{{Op: api.OpSet, A: 0, B: 3}}, 63)
	return api.Code{Size: 1, List: append(list, api.Ins{Op: api.OpHalt})}
}

// factorial is the code of a program that calls itself.
func factorial(t *testing.T, p, n int) api.Code {
	t.Helper()
	program, at, err := source.Parse("fn main(n) = if n then n * main(n - 1) else 1")
	if err != nil {
		t.Fatalf("Parse: error %v at %d", err, at)
	}
	c, err := lower.Code(fieldOf(t, p), program)
	if err != nil {
		t.Fatalf("Code: error %v", err)
	}
	if c, err = lower.With(fieldOf(t, p), c, []int{n}); err != nil {
		t.Fatalf("With: error %v", err)
	}
	return c
}

// runs are what is vouched for in these tests: code that is run in so many rows, over a field that these fit.
func runs(t *testing.T) []run {
	t.Helper()
	return []run{
		{97, five(), 4, 5},
		{193, five(), 4, 5},
		{193, five(), 8, 5},
		{97, quotient(), 4, 17},
		{257, quotient(), 8, 49},
		{257, quotient(), 16, 49},
		{great, quotient(), 4, 805306366},
		{12289, everyOp(), 32, 6},
		{7681, everyOp(), 64, 6},
		{great, everyOp(), 32, 6},
		{12289, longest(), 64, 3},
		{12289, factorial(t, 12289, 3), 128, 6},
		{great, factorial(t, great, 12), 256, 479001600},
	}
}

// run is code, its rows, and what it comes to.
type run struct {
	p       int
	c       api.Code
	n       int
	outcome int
}

func (r run) String() string {
	return fmt.Sprintf("%d instructions in %d rows over %d", len(r.c.List), r.n, r.p)
}

// table gives the rows of a run.
func (r run) table(t *testing.T) [][]int {
	t.Helper()
	rows, outcome, err := rules.Table(fieldOf(t, r.p), r.c, r.n)
	if err != nil || outcome != r.outcome {
		t.Fatalf("Table of %v: outcome %d, error %v", r, outcome, err)
	}
	return rows
}

// misfits are a prime, instructions and rows that do not fit.
func misfits() [][3]int {
	out := [][3]int{
		{257, 2, 32}, {97, 2, 12}, {193, 2, 12}, {193, 2, 24}, {12289, 2, 1536}, {great, 2, 1024}, {great, 2, 2048}, {great, 2, 12},
		{97, 2, 8}, {193, 2, 16}, {101, 2, 4}, {3, 2, 4}, {17, 2, 4}, {17, 1, 1}, {19, 1, 4}, {31, 2, 4}, {2147483647, 2, 4},
		{97, 0, 4}, {97, 65, 4}, {12289, 65, 512}, {great, 4096, 4}, {great, 0, 64},
	}
	for _, n := range []int{0, 1, 2, 3, 5, 6, 7, 9, 12, 100, 511, 513} {
		out = append(out, [3]int{great, 2, n}, [3]int{97, 2, n})
	}
	return out
}

// codeOf is some code of so many instructions.
func codeOf(instructions int) api.Code {
	return api.Code{Size: 1, List: slices.Repeat([]api.Ins{{Op: api.OpHalt, A: -1}}, instructions)}
}

// zeros are rows.
func zeros(n, width int) [][]int {
	rows := make([][]int, n)
	for i := range rows {
		rows[i] = make([]int, width)
	}
	return rows
}

func TestW1WhatDoesNotFit(t *testing.T) {
	for _, m := range misfits() {
		f, c, n := fieldOf(t, m[0]), codeOf(m[1]), m[2]
		word, err := whole.Compose(f, c, 0, zeros(n, rules.Width(c)), make([]int, n), 1, 2, 3)
		same(t, []any{plain.Told(err), len(word)}, []any{api.ErrSize, 0}, "Compose of %d instructions in %d rows over %d", m[1], n, m[0])
		isNoVoucher(t, m[0], c, n, 3, api.ErrSize)
		same(t, whole.Check(f, c, 0, n, 3, api.Voucher{}), false, "Check of what does not fit")
	}
	for _, n := range []int{-1, -4, -8, math.MinInt, math.MaxInt, math.MaxInt - 3, 1 << 62, 1 << 61, 1 << 60, -1 << 61} {
		for _, p := range []int{3, 97, great} {
			isNoVoucher(t, p, five(), n, 3, api.ErrSize)
			same(t, whole.Check(fieldOf(t, p), five(), 5, n, 3, api.Voucher{}), false, "Check with %d rows", n)
		}
	}
}

func TestW1WhatFits(t *testing.T) {
	t.Parallel()
	for _, m := range [][3]int{
		{97, 1, 4}, {97, 64, 4}, {193, 2, 4}, {193, 2, 8}, {257, 2, 16}, {257, 64, 4}, {12289, 2, 512}, {great, 1, 512}, {40961, 3, 512},
		{7681, 2, 64}, {769, 2, 32}, {641, 2, 16},
	} {
		f, c, n := fieldOf(t, m[0]), codeOf(m[1]), m[2]
		word, err := whole.Compose(f, c, 0, zeros(n, rules.Width(c)), make([]int, n), 1, 2, 3)
		same(t, []any{err, len(word)}, []any{nil, 8 * n}, "Compose of %d instructions in %d rows over %d", m[1], n, m[0])
		v, outcome, err := whole.Make(f, c, n, 1)
		same(t, []any{outcome, err}, []any{0, nil}, "Make of %d instructions in %d rows over %d", m[1], n, m[0])
		same(t, whole.Check(f, c, 0, n, 1, v), true, "Check of %d instructions in %d rows over %d", m[1], n, m[0])
	}
}

func TestW1NoPointInCommon(t *testing.T) {
	for _, r := range runs(t) {
		f := fieldOf(t, r.p)
		points := map[int]int{}
		for _, d := range []*domain.Domain{domainOf(t, r.p, r.n, 1), domainOf(t, r.p, 8*r.n, f.Generator())} {
			for _, x := range d.Points() {
				points[x]++
			}
		}
		same(t, len(points), 9*r.n, "how many points the two domains of %v have", r)
	}
}

// isNoVoucher sees that Make tells an error, and nothing else.
func isNoVoucher(t *testing.T, p int, c api.Code, n, asked int, want api.Errno) {
	t.Helper()
	v, outcome, err := whole.Make(fieldOf(t, p), c, n, asked)
	same(t, []any{plain.Told(err), outcome, v}, []any{want, 0, api.Voucher{}},
		"Make of %d instructions of the size %d over %d with %d rows and %d asked", len(c.List), c.Size, p, n, asked)
}
