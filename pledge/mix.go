package pledge

import (
	"slices"

	"attest/api"
	"attest/field"
	"attest/poly"
)

// question makes one element of those in a list. What rows are mixed to is what it makes of each of their columns; so
// whoever sees a column can ask it the same.
type question func(l []int) int

// Mix gives the sum of rows, each times a power of an element.
func Mix(f *field.Field, rows [][]int, r int) ([]int, error) {
	if len(rows) == 0 || !areWide(rows, len(rows[0])) {
		return nil, api.ErrSize
	}
	return across(rows, powers(f, r)), nil
}

// powers asks for the sum of a list's elements, each times a power of r.
func powers(f *field.Field, r int) question {
	return func(l []int) int { return poly.Eval(f, l, r) }
}

// across asks each column of rows, which are of one length, and at least one.
func across(rows [][]int, ask question) []int {
	out := make([]int, len(rows[0]))
	for j := range out {
		out[j] = ask(column(rows, j))
	}
	return out
}

// column gives what rows have at a place.
func column(rows [][]int, place int) []int {
	out := make([]int, len(rows))
	for i, row := range rows {
		out[i] = row[place]
	}
	return out
}

// areWide tells whether all rows have so many elements.
func areWide(rows [][]int, wide int) bool {
	return !slices.ContainsFunc(rows, func(row []int) bool { return len(row) != wide })
}
