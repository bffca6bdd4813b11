package rules

import (
	"cmp"
	"slices"

	"attest/api"
	"attest/field"
)

// pairsOfRow is how many pairs a row has in each of the two orders.
const pairsOfRow = a3 - a0 + 1

// rowPairs gives the pairs of a row: where they are stands from at on, what they are from is on.
func rowPairs(row []int, at, is int) []api.Cell {
	pairs := make([]api.Cell, pairsOfRow)
	for i := range pairs {
		pairs[i] = api.Cell{At: row[at+i], Is: row[is+i]}
	}
	return pairs
}

// sortedPairs gives the pairs of all rows, as elements, ascending by where they are, then by what they are.
func sortedPairs(f *field.Field, rows [][]int, at, is int) []api.Cell {
	var pairs []api.Cell
	for _, row := range rows {
		for _, pair := range rowPairs(row, at, is) {
			pairs = append(pairs, api.Cell{At: f.Of(pair.At), Is: f.Of(pair.Is)})
		}
	}
	slices.SortFunc(pairs, func(a, b api.Cell) int {
		return cmp.Or(cmp.Compare(a.At, b.At), cmp.Compare(a.Is, b.Is))
	})
	return pairs
}

// product is that of x - (At + y Is) over all pairs.
func product(f *field.Field, pairs []api.Cell, x, y int) int {
	out := 1
	for _, pair := range pairs {
		out = f.Mul(out, f.Sub(x, f.Add(pair.At, f.Mul(y, pair.Is))))
	}
	return out
}

// fillHoles writes the holes into rows that show steps, one a row, so that sorted pairs go on by at most 1; false: there are
// more holes than rows.
func fillHoles(rows [][]int) bool {
	filled, next := 0, 0
	for _, at := range ascendingCells(rows) {
		for ; next < at; next++ {
			if filled == len(rows) {
				return false
			}
			rows[filled][a3] = next
			filled++
		}
		next = at + 1
	}
	return true
}

// ascendingCells gives all cells of the steps that rows show.
func ascendingCells(rows [][]int) []int {
	var cells []int
	for _, row := range rows {
		cells = append(cells, row[a0:a3]...)
	}
	slices.Sort(cells)
	return slices.Compact(cells)
}

// fillSorted writes all pairs into the rows once more, sorted.
func fillSorted(f *field.Field, rows [][]int) {
	for i, pair := range sortedPairs(f, rows, a0, v0) {
		row, place := rows[i/pairsOfRow], i%pairsOfRow
		row[b0+place], row[w0+place] = pair.At, pair.Is
	}
}
