package rules

import (
	"attest/api"
	"attest/field"
)

// The elements of a row. Behind the last of these stand those of the other instructions.
const (
	fp = iota
	ap
	rv
	a0
	a1
	a2
	a3
	v0
	v1
	v2
	v3
	h
	b0
	b1
	b2
	b3
	w0
	w1
	w2
	w3
	s0
)

// shown gives n rows of steps, the last of which is shown till the end; all but its holes and its sorted pairs.
func shown(f *field.Field, c api.Code, steps []api.Step, n int) [][]int {
	rows := make([][]int, n)
	for i := range rows {
		rows[i] = rowOf(f, c, steps[min(i, len(steps)-1)])
	}
	return rows
}

// rowOf shows one step.
func rowOf(f *field.Field, c api.Code, step api.Step) []int {
	row := make([]int, Width(c))
	row[fp], row[ap], row[rv] = step.FP, step.AP, step.RV
	copy(row[a0:], step.At[:])
	copy(row[v0:], step.Is[:])
	row[h] = help(f, c.List[step.PC].Op, step.Is)
	row[s0+step.PC] = 1
	return row
}

// help is what shows that something is not 0: what makes 1 of it.
func help(f *field.Field, op int, is [3]int) int {
	switch op {
	case api.OpDiv:
		return f.Inv(is[1])
	case api.OpSame:
		return f.Inv(f.Sub(is[0], is[1]))
	case api.OpZero:
		return f.Inv(is[0])
	}
	return 0
}

// isPaired tells whether each row has all elements of pairs.
func isPaired(rows [][]int) bool {
	for _, row := range rows {
		if len(row) < s0 {
			return false
		}
	}
	return true
}

// isWide tells whether each row has just so many elements.
func isWide(rows [][]int, width int) bool {
	for _, row := range rows {
		if len(row) != width {
			return false
		}
	}
	return true
}
