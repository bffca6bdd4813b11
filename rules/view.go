package rules

import (
	"attest/api"
	"attest/field"
	"attest/machine"
)

// Where other rules begin (R2), by their numbers less that of the instructions: ahead of them all stand those of all rows.
const (
	onwardRules = 12 // of all rows but the last
	firstRules  = 18 // of the first row
	lastRules   = 24 // of the last row
)

// Rows is of which rows a rule says something.
type Rows int

// Of which rows a rule says something.
const (
	AllRows Rows = iota
	AllButLast
	FirstRow
	LastRow
)

// RowsOf tells of which rows a rule says something, by its number.
func RowsOf(c api.Code, rule int) Rows {
	l := len(c.List)
	switch {
	case rule < l+onwardRules:
		return AllRows
	case rule < l+firstRules:
		return AllButLast
	case rule < l+lastRules:
		return FirstRow
	}
	return LastRow
}

// has tells whether a row, one of so many of which last is the last, is one of these.
func (r Rows) has(row, last int) bool {
	switch r {
	case AllButLast:
		return row != last
	case FirstRow:
		return row == 0
	case LastRow:
		return row == last
	}
	return true
}

// Said gives what each rule says is 0, by its number, of a row and the next one, wherever they stand; nothing, if one of them
// has not Width elements, or there is no instruction.
func Said(f *field.Field, c api.Code, outcome int, row, next []int) []int {
	if len(c.List) == 0 || len(row) != Width(c) || len(next) != Width(c) {
		return nil
	}
	v := &view{Field: f, code: c, outcome: outcome, row: row, next: next}
	return v.said()
}

// view is what the rules say something of: a row and the next one, of some code.
type view struct {
	*field.Field
	code      api.Code
	outcome   int
	row, next []int
}

// brokenIn gives the first rule that does not hold in a row; -1: all that say something of it hold.
func brokenIn(f *field.Field, c api.Code, outcome int, rows [][]int, i int) int {
	last := len(rows) - 1
	// Of the last row nothing is asked that speaks of a next one, so that any row may stand for it.
	for rule, is := range Said(f, c, outcome, rows[i], rows[min(i+1, last)]) {
		if is != 0 && RowsOf(c, rule).has(i, last) {
			return rule
		}
	}
	return -1
}

// said gives what each rule says is 0, by its number.
func (v *view) said() []int {
	var out []int
	for k := range v.code.List {
		out = append(out, v.choice(v.row[s0+k]))
	}
	out = append(out, v.here()...)
	for j := range pairsOfRow - 1 {
		out = append(out, v.sorted(v.row[b0+j], v.row[w0+j], v.row[b0+j+1], v.row[w0+j+1])...)
	}
	out = append(out, v.onward()...)
	out = append(out, v.sorted(v.row[b3], v.row[w3], v.next[b0], v.next[w0])...)
	return append(out, v.ends()...)
}

// choice is 0 of 0 and 1.
func (v *view) choice(x int) int { return v.Mul(x, v.Sub(x, 1)) }

// sorted is 0 and 0, where the second pair stands one further than the first, or is the same.
func (v *view) sorted(at, is, nextAt, nextIs int) []int {
	d, e := v.Sub(nextAt, at), v.Sub(nextIs, is)
	return []int{v.choice(d), v.Mul(v.Sub(d, 1), e)}
}

// here is what the rules from L to L + 5 say is 0.
func (v *view) here() []int {
	return []int{
		v.Sub(v.sum(v.row, v.once), 1),
		v.Sub(v.row[a0], v.sum(v.row, v.firstCell)),
		v.Sub(v.row[a1], v.sum(v.row, v.secondCell)),
		v.Sub(v.row[a2], v.sum(v.row, v.thirdCell)),
		v.sum(v.row, v.work),
		v.sum(v.row, v.moreWork),
	}
}

// onward is what the rules from L + 12 to L + 15 say is 0.
func (v *view) onward() []int {
	return []int{
		v.Sub(v.sum(v.next, v.number), v.sum(v.row, v.nextPC)),
		v.Sub(v.next[fp], v.sum(v.row, v.nextFP)),
		v.Sub(v.next[ap], v.sum(v.row, v.nextAP)),
		v.Sub(v.next[rv], v.sum(v.row, v.nextRV)),
	}
}

// ends is what the rules of the first and of the last row say is 0.
func (v *view) ends() []int {
	return []int{
		v.Sub(v.row[s0], 1),
		v.Sub(v.row[fp], 1),
		v.Sub(v.Sub(v.row[ap], 1), v.code.Size),
		v.Of(v.row[rv]),
		v.Of(v.row[b0]),
		v.Of(v.row[w0]),
		v.Sub(v.sum(v.row, v.halts), 1),
		v.Sub(v.row[v0], v.outcome),
	}
}

// sum adds up what a term is of each instruction, times its s in a row.
func (v *view) sum(row []int, term func(k int, in api.Ins) int) int {
	out := 0
	for k, in := range v.code.List {
		out = v.Add(out, v.Mul(row[s0+k], term(k, in)))
	}
	return out
}

// once counts an instruction.
func (v *view) once(int, api.Ins) int { return 1 }

// number is that of an instruction.
func (v *view) number(k int, _ api.Ins) int { return k }

// halts counts an instruction that ends a run.
func (v *view) halts(_ int, in api.Ins) int {
	if in.Op == api.OpHalt {
		return 1
	}
	return 0
}

// firstCell is the first cell of an instruction.
func (v *view) firstCell(_ int, in api.Ins) int { return v.cells(in)[0] }

// secondCell is the second cell of an instruction.
func (v *view) secondCell(_ int, in api.Ins) int { return v.cells(in)[1] }

// thirdCell is the third cell of an instruction.
func (v *view) thirdCell(_ int, in api.Ins) int { return v.cells(in)[2] }

// cells are those of an instruction.
func (v *view) cells(in api.Ins) [3]int {
	return machine.Cells(v.Field, in, v.row[fp], v.row[ap])
}
