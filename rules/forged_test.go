package rules_test

import (
	"math/rand"
	"slices"
	"testing"

	"attest/api"
	"attest/field"
	"attest/machine"
	"attest/plain"
	"attest/rules"
)

// forged gives rows of code whose cells are said to be what somebody likes, be they told or not; nil, if no such rows end
// with OpHalt. What R2 leaves open is drawn.
func forged(r *rand.Rand, f *field.Field, c api.Code, memory []int, n int) [][]int {
	p := f.P()
	var rows [][]int
	pc, fp, ap, rv := 0, 1, f.Add(1, c.Size), 0
	for range n {
		if pc >= len(c.List) {
			return nil
		}
		row := make([]int, rules.Width(c))
		row[0], row[1], row[2], row[20+pc] = fp, ap, rv, 1
		here := reading{p: p, c: c, row: row, in: c.List[pc], k: pc}
		for j := range 3 {
			row[3+j] = here.sum(row, cellTerms[j])
			row[7+j] = memory[row[3+j]]
		}
		row[11] = helping(r, p, here.in.Op, row)
		pc, fp, ap, rv = here.sum(row, pcTerms), here.sum(row, fpTerms), here.sum(row, apTerms), here.sum(row, rvTerms)
		rows = append(rows, row)
	}
	fill(r, rows, memory)
	return rows
}

// helping is an h that makes most of what it can show.
func helping(r *rand.Rand, p, op int, row []int) int {
	of := 0
	switch op {
	case api.OpDiv:
		of = row[8]
	case api.OpSame:
		of = row[7] - row[8]
	case api.OpZero:
		of = row[7]
	}
	if element(of, p) == 0 || r.Intn(20) == 0 {
		return r.Intn(p)
	}
	return inverse(of, p)
}

// fill lets the fourth pairs be what no row has, as far as there are as many rows, and sorts all pairs.
func fill(r *rand.Rand, rows [][]int, memory []int) {
	used, greatest := map[int]int{}, 0
	for _, row := range rows {
		for _, a := range row[3:6] {
			used[a]++
			greatest = max(greatest, a)
		}
	}
	next := 0
	var pairs [][2]int
	for _, row := range rows {
		for next < greatest && used[next] > 0 {
			next++
		}
		row[6] = next
		if next == greatest {
			row[6] = r.Intn(greatest + 1) // one that is there already
		} else {
			used[next]++
		}
		row[10] = memory[row[6]]
		for j := range 4 {
			pairs = append(pairs, [2]int{row[3+j], row[7+j]})
		}
	}
	slices.SortFunc(pairs, func(a, b [2]int) int { return slices.Compare(a[:], b[:]) })
	for i, pair := range pairs {
		rows[i/4][12+i%4], rows[i/4][16+i%4] = pair[0], pair[1]
	}
}

// memoryOf is what a run told, if it ended, and what is drawn for all other cells and for some of these.
func memoryOf(r *rand.Rand, p int, ran api.Ran) []int {
	memory := make([]int, p)
	for i := range memory {
		memory[i] = r.Intn(min(p, 4))
	}
	for _, cell := range ran.Cells {
		memory[cell.At] = cell.Is
	}
	if r.Intn(2) == 0 {
		memory[r.Intn(min(p, 9))] = r.Intn(p)
	}
	if r.Intn(4) > 0 {
		memory[0] = 0
	}
	return memory
}

func TestR4ForgedRows(t *testing.T) {
	r := rand.New(rand.NewSource(413))
	kept := map[api.Errno]int{}
	tried := map[api.Errno]int{}
	for range 60000 {
		p := []int{5, 7, 11, 13, 17, 37, 97}[r.Intn(7)]
		f, c := fieldOf(t, p), wildCode(r, p)
		if len(c.List) == 0 || len(c.List) > p {
			continue
		}
		n := 1 + r.Intn(min(p/4, 9))
		ran, err := machine.Run(f, c, n-1)
		told := plain.Told(err)
		rows := forged(r, f, c, memoryOf(r, p, ran), n)
		if rows == nil {
			continue
		}
		tried[told]++
		outcome := rows[n-1][7]
		if r.Intn(9) == 0 {
			outcome = r.Intn(p)
		}
		if rules.Broken(f, c, outcome, rows).Rule != -1 || !rules.Alike(f, rows) {
			continue
		}
		kept[told]++
		if told == api.OK && outcome != ran.Outcome || told == api.ErrStuck || told == api.ErrLong {
			t.Fatalf("%v over %d comes to %v, error %v, but rows show %d: %v", c, p, ran, err, outcome, rows)
		}
	}
	if kept[api.OK] < 1000 || kept[api.ErrBlank] < 1000 || tried[api.ErrStuck] < 1000 || tried[api.ErrLong] < 1000 {
		t.Errorf("too few rows: %v were tried, %v keep the rules", tried, kept)
	}
}

func TestR4WhatIsStuckIsNotShown(t *testing.T) {
	// Each of these would be shown by rows, if a rule were not there.
	r := rand.New(rand.NewSource(414))
	for _, c := range []api.Code{
		code(1, api.OpSet, 0, 3, 0, api.OpSet, 0, 4, 0, api.OpHalt, 0, 0, 0),
		code(1, api.OpSet, 0, 3, 0, api.OpMust, 0, -1, 0, api.OpHalt, 0, 0, 0),
		code(1, api.OpDiv, -1, -1, 0, api.OpHalt, 0, 0, 0),
		code(1, api.OpSet, 0, 3, 0, api.OpDiv, 0, -1, 1, api.OpHalt, 0, 0, 0),
		code(1, api.OpJump, 2, 0, 0, api.OpHalt, -1, 0, 0),
		code(1, api.OpJump, 0, 0, 0, api.OpHalt, -1, 0, 0),
		code(1, 14, 0, 0, 0, api.OpHalt, -1, 0, 0),
		code(1, api.OpSet, -1, 1, 0, api.OpHalt, -1, 0, 0),
		code(1, api.OpSame, -1, -1, -1, api.OpHalt, -1, 0, 0),
		code(1, api.OpTake, 0, 0, 0, api.OpSet, 0, 1, 0, api.OpHalt, -1, 0, 0),
	} {
		for range 3000 {
			const p = 17
			f, n := fieldOf(t, p), 1+r.Intn(4)
			if _, err := machine.Run(f, c, n-1); plain.Told(err) != api.ErrStuck && plain.Told(err) != api.ErrLong {
				t.Fatalf("%v is no code for this test: %v", c, err)
			}
			rows := forged(r, f, c, memoryOf(r, p, api.Ran{}), n)
			if rows == nil {
				continue
			}
			outcome := rows[n-1][7]
			if rules.Broken(f, c, outcome, rows).Rule == -1 && rules.Alike(f, rows) {
				t.Fatalf("%v is shown: %v", c, rows)
			}
		}
	}
}
