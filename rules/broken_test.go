package rules_test

import (
	"math"
	"math/rand"
	"slices"
	"testing"

	"attest/api"
	"attest/field"
	"attest/rules"
)

// copied gives rows that may be changed.
func copied(rows [][]int) [][]int {
	out := make([][]int, len(rows))
	for i, row := range rows {
		out[i] = slices.Clone(row)
	}
	return out
}

// everyOp is code in which each Op is done, OpZero both ways.
func everyOp() api.Code {
	return code(9,
		api.OpSet, 0, 6, 0,
		api.OpSet, 1, 2, 0,
		api.OpAdd, 0, 1, 2,
		api.OpSub, 0, 1, 3,
		api.OpMul, 2, 3, 4,
		api.OpDiv, 4, 1, 5,
		api.OpSame, 0, 1, 6,
		api.OpSame, 0, 0, 7,
		api.OpMust, 0, 0, 0,
		api.OpZero, 6, 11, 0,
		api.OpHalt, 0, 0, 0,
		api.OpZero, 7, 10, 0,
		api.OpPass, 0, 0, 0,
		api.OpCall, 16, 2, 0,
		api.OpTake, 8, 0, 0,
		api.OpJump, 18, 0, 0,
		api.OpAdd, 0, 0, 1,
		api.OpBack, 1, 0, 0,
		api.OpHalt, 8, 0, 0)
}

func TestR2EachElementChanged(t *testing.T) {
	const p = 97
	f, c := fieldOf(t, p), everyOp()
	rows, outcome := table(t, p, c, 24)
	met := map[int]int{}
	for i := range rows {
		for j := range rows[i] {
			for _, more := range []int{1, -1, 2, 40, p, -p, 3*p + 5} {
				changed := copied(rows)
				changed[i][j] += more
				got := rules.Broken(f, c, outcome, changed)
				met[got.Rule]++
				same(t, got, firstBroken(p, c, outcome, changed), "%d added to element %d of row %d", more, j, i)
			}
		}
	}
	l := len(c.List)
	for k := range l {
		if met[k] == 0 {
			t.Errorf("the rule %d is never the first that is broken", k)
		}
	}
	for _, n := range []int{1, 2, 3, 4, 5, 6, 7, 8, 9, 10, 11, 13, 14, 15, 16, 17} {
		if met[l+n] == 0 {
			t.Errorf("the rule L + %d is never the first that is broken", n)
		}
	}
}

func TestR2RulesOfTheEnds(t *testing.T) {
	const p = 97
	f, c := fieldOf(t, p), five()
	rows, _ := table(t, p, c, 2)
	is := func(want api.Broken, c api.Code, outcome int, rows [][]int, what string) {
		t.Helper()
		same(t, rules.Broken(f, c, outcome, rows), want, "%s", what)
		same(t, firstBroken(p, c, outcome, rows), want, "%s, by the reference", what)
	}
	is(api.Broken{Rule: 27, Row: 1}, c, 6, rows, "another outcome")
	is(api.Broken{Rule: -1}, c, 5-97, rows, "the same outcome")
	is(api.Broken{Rule: 22, Row: 0}, api.Code{Size: 2, List: c.List}, 5, rows, "another Size")
	is(api.Broken{Rule: 22, Row: 0}, api.Code{Size: math.MaxInt, List: c.List}, 5, rows, "a great Size")
	is(api.Broken{Rule: -1}, api.Code{Size: 1 - 97, List: c.List}, 5, rows, "the same Size")
	great := copied(rows)
	for _, row := range great {
		row[1] = f.Add(1, math.MaxInt)
	}
	is(api.Broken{Rule: -1}, api.Code{Size: math.MaxInt, List: c.List}, 5, great, "a great Size, and the register that it makes")
	is(api.Broken{Rule: 20, Row: 0}, c, 5, rows[1:], "without the first row")
	is(api.Broken{Rule: 26, Row: 0}, c, 5, rows[:1], "without the last row")
	moved := copied(rows)
	for _, row := range moved {
		for j := range 4 {
			row[12+j]++
		}
	}
	is(api.Broken{Rule: 24, Row: 0}, c, 5, moved, "sorted pairs that begin with the cell 1")
	moved = copied(rows)
	for _, row := range moved {
		for j := range 4 {
			row[16+j] += 97*2 + 3
		}
	}
	moved[1][18], moved[1][19] = 50, 50 // where a cell is one further, it may be anything
	is(api.Broken{Rule: 25, Row: 0}, c, 5, moved, "sorted pairs that begin with a cell that is 3")
	for j, rule := range map[int]int{0: 21, 1: 22, 2: 23} {
		register := copied(rows)
		for _, row := range register {
			row[j]++
			if j == 0 {
				row[3]++
			}
		}
		is(api.Broken{Rule: rule, Row: 0}, c, 5, register, "another register at first")
	}
}

func TestR2SumsOfS(t *testing.T) {
	// Over 3, four s that are 1 are 1 in all: of rows like this all sums have more than one part.
	r := rand.New(rand.NewSource(213))
	met := map[int]int{}
	for range 150 {
		p := []int{3, 3, 5}[r.Intn(3)]
		climb(t, r, p, met)
	}
	for n := range 26 {
		if met[n] == 0 {
			t.Errorf("the rule L + %d is never the first that is broken", n)
		}
	}
}

// climb changes elements of arbitrary rows of arbitrary code, one by one, so that what is broken first comes later and later.
func climb(t *testing.T, r *rand.Rand, p int, met map[int]int) {
	t.Helper()
	f := fieldOf(t, p)
	c := api.Code{Size: r.Intn(2 * p)}
	for range p + 1 + r.Intn(3) {
		c.List = append(c.List, api.Ins{Op: r.Intn(16) - 1, A: r.Intn(9) - 4, B: r.Intn(9) - 4, C: r.Intn(9) - 4})
	}
	c.List[r.Intn(len(c.List))].Op = api.OpHalt
	rows := make([][]int, 1+r.Intn(3))
	for i := range rows {
		rows[i] = make([]int, rules.Width(c))
		for j := range rows[i] {
			rows[i][j] = r.Intn(3*p) - p
		}
	}
	outcome := r.Intn(p)
	best := firstBroken(p, c, outcome, rows)
	for range 800 {
		i, j := r.Intn(len(rows)), r.Intn(rules.Width(c))
		was := copied(rows)
		rows[i][j] = r.Intn(p)
		if r.Intn(2) == 0 {
			follow(r, p, c, rows)
		}
		want := firstBroken(p, c, outcome, rows)
		met[want.Rule-len(c.List)]++
		got := rules.Broken(f, c, outcome, rows)
		if got != want {
			t.Fatalf("Broken of %v over %d with the outcome %d: got %v, want %v of %v", c, p, outcome, got, want, rows)
		}
		if want.Rule < 0 {
			return
		}
		if want.Rule < best.Rule || want.Rule == best.Rule && want.Row < best.Row {
			rows = was
		} else {
			best = want
		}
	}
}

// follow changes registers and cells so that the rules hold by which each follows from what is ahead of it, mostly.
func follow(rnd *rand.Rand, p int, c api.Code, rows [][]int) {
	l := len(c.List)
	for i := range rows {
		r := reading{p: p, c: c, row: rows[i], next: rows[(i+1)%len(rows)]}
		for n := range 3 {
			is, _ := r.says(l + 1 + n)
			r.row[3+n] -= is
		}
		for n := range 3 {
			if i+1 < len(rows) && rnd.Intn(9) > 0 {
				is, _ := r.says(l + 13 + n)
				r.next[n] -= is
			}
		}
	}
}

func TestR2TheFirstRuleCounts(t *testing.T) {
	const p = 97
	f, c := fieldOf(t, p), five()
	rows, outcome := table(t, p, c, 8)
	rows[6][20] = 2 // the rule 0
	rows[3][21] = 5 // the rule 1
	rows[0][0] = 9  // a later one, in an earlier row
	same(t, rules.Broken(f, c, outcome, rows), api.Broken{Rule: 0, Row: 6}, "Broken")
	rows[7][20] = 2
	same(t, rules.Broken(f, c, outcome, rows), api.Broken{Rule: 0, Row: 6}, "Broken of two rows")
	rows[6][20], rows[7][20] = 0, 0
	same(t, rules.Broken(f, c, outcome, rows), api.Broken{Rule: 1, Row: 3}, "Broken of what is left")
}

func TestR2OtherOps(t *testing.T) {
	const p = 97
	f := fieldOf(t, p)
	rows, outcome := table(t, p, five(), 2)
	for _, op := range []int{14, -1, 15, math.MaxInt, math.MinInt, 97, 5 + 97} {
		c := five()
		c.List[0].Op = op
		same(t, rules.Broken(f, c, outcome, rows), api.Broken{Rule: 3, Row: 0}, "Broken with the Op %d", op)
		changed := copied(rows)
		changed[0][3] = 0
		same(t, rules.Broken(f, c, outcome, changed), api.Broken{Rule: 6, Row: 0}, "Broken with the Op %d and no cell", op)
	}
}

func TestR2NoRows(t *testing.T) {
	const p = 97
	f, c := fieldOf(t, p), five()
	rows, outcome := table(t, p, c, 4)
	none := api.Broken{Rule: -2}
	is := func(c api.Code, rows [][]int, what string) {
		t.Helper()
		same(t, rules.Broken(f, c, outcome, rows), none, "%s", what)
	}
	is(c, nil, "no rows")
	is(c, [][]int{}, "an empty list of rows")
	is(c, [][]int{nil}, "an empty row")
	is(api.Code{Size: 1}, rows, "no instruction")
	is(api.Code{Size: 1}, [][]int{make([]int, 20)}, "no instruction, and a row of its width")
	is(api.Code{}, nil, "nothing")
	for i := range rows {
		for _, change := range []func([]int) []int{
			func(row []int) []int { return row[:len(row)-1] },
			func(row []int) []int { return append(row, 0) },
			func([]int) []int { return nil },
			func(row []int) []int { return row[:20] },
		} {
			changed := copied(rows)
			changed[0][20] = 2 // that rows are none comes ahead of what is broken
			changed[i] = change(changed[i])
			is(c, changed, "a row that has not the width")
		}
	}
}

func TestR2AnyCode(t *testing.T) {
	// Code that can't be run may have rows, too.
	f := fieldOf(t, 3)
	c := api.Code{Size: -7, List: slices.Repeat([]api.Ins{{Op: 3, A: math.MaxInt, B: math.MinInt, C: -1}}, 5000)}
	row := make([]int, rules.Width(c))
	same(t, rules.Broken(f, c, 0, [][]int{row}), api.Broken{Rule: 5000}, "Broken of zeros")
	row[20+4999] = math.MaxInt // 1, over 3
	same(t, rules.Broken(f, c, 0, [][]int{row}), firstBroken(3, c, 0, [][]int{row}), "Broken of one s")
	many := slices.Repeat([][]int{make([]int, 22)}, 2000)
	same(t, rules.Broken(f, five(), 0, many), api.Broken{Rule: 2}, "Broken of many rows")
}

// alike sees what Alike answers.
func alike(t *testing.T, f *field.Field, rows [][]int, want bool, what string) {
	t.Helper()
	if got := rules.Alike(f, rows); got != want {
		t.Errorf("Alike of %s: got %v, want %v", what, got, want)
	}
}

func TestR2Alike(t *testing.T) {
	const p = 97
	f, c := fieldOf(t, p), everyOp()
	rows, _ := table(t, p, c, 24)
	alike(t, f, rows, true, "a table")
	alike(t, f, nil, true, "no rows, which have no pairs")
	alike(t, f, rows[:20], false, "some rows of a table")
	for i := range rows {
		for j := range rows[i] {
			changed := copied(rows)
			changed[i][j] += p * (1 - 2*(i%2))
			alike(t, f, changed, true, "a table with other numbers for the same elements")
			changed[i][j]++
			alike(t, f, changed, j < 3 || j == 11 || j >= 20, "a table with another element")
		}
	}
	for _, wide := range []int{0, 1, 19} {
		for i := range rows {
			short := copied(rows)
			short[i] = short[i][:wide]
			alike(t, f, short, false, "rows one of which is too short")
		}
		alike(t, f, [][]int{make([]int, wide)}, false, "a row that is too short")
	}
	alike(t, f, [][]int{make([]int, 20), make([]int, 21)}, true, "rows that are long enough")
}

func TestR2AlikeCountsPairs(t *testing.T) {
	f := fieldOf(t, 97)
	row := func(a, v, b, w [4]int) []int {
		return slices.Concat([]int{1, 2, 3}, a[:], v[:], []int{9}, b[:], w[:])
	}
	one, two := [4]int{1, 1, 2, 2}, [4]int{5, 5, 6, 6}
	alike(t, f, [][]int{row(one, two, one, two)}, true, "the same pairs")
	alike(t, f, [][]int{row(one, two, [4]int{2, 1, 2, 1}, [4]int{6, 5, 6, 5})}, true, "the same pairs in another order")
	alike(t, f, [][]int{row(one, two, [4]int{2, 1, 1, 1}, [4]int{6, 5, 5, 5})}, false, "the same pairs, not as often")
	alike(t, f, [][]int{row(one, two, one, [4]int{5, 6, 5, 6})}, false, "the same cells, and the same numbers, but not the same pairs")
	alike(t, f, [][]int{row(one, two, two, one)}, false, "pairs the other way round")
	alike(t, f, [][]int{row(one, [4]int{5, 7, 6, 8}, one, [4]int{7, 5, 8, 6})}, true, "cells that are two things, in another order")
	alike(t, f, [][]int{row(one, two, two, one), row(two, one, one, two)}, true, "the same pairs in other rows")
	alike(t, f, [][]int{row(one, two, two, one), row(two, two, one, one)}, false, "the same numbers in other rows")
}
