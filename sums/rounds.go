package sums

import (
	"attest/api"
	"attest/field"
	"attest/poly"
)

// Round gives what the sums are, the first variable being 0, 1, ..
func Round(f *field.Field, tables [][]int) ([]int, error) {
	if !areTables(tables) || variables(tables[0]) == 0 {
		return nil, api.ErrSize
	}
	if !hasPlaces(f, len(tables)) {
		return nil, api.ErrRange
	}
	return round(f, tables), nil
}

// hasPlaces tells whether 0 to d are unlike as elements: else a polynomial of the degree d is not told by what it is there.
func hasPlaces(f *field.Field, d int) bool { return d < f.P() }

// round is Round for what are tables over at least one variable.
func round(f *field.Field, tables [][]int) []int {
	out := make([]int, len(tables)+1)
	for x := range out {
		out[x] = total(f, allFixed(f, tables, x))
	}
	return out
}

// allFixed lets the first variable of each table be an element.
func allFixed(f *field.Field, tables [][]int, r int) [][]int {
	out := make([][]int, len(tables))
	for i, table := range tables {
		out[i] = fixed(f, table, r)
	}
	return out
}

// Make shows what the sum is, round by round.
func Make(f *field.Field, tables [][]int, drawn []int) (api.Summed, error) {
	if !areTables(tables) || len(drawn) != variables(tables[0]) {
		return api.Summed{}, api.ErrSize
	}
	if !hasPlaces(f, len(tables)) {
		return api.Summed{}, api.ErrRange
	}
	var s api.Summed
	for _, r := range drawn {
		s.Rounds = append(s.Rounds, round(f, tables))
		tables = allFixed(f, tables, r)
	}
	for _, n := range across(tables, 0) {
		s.Finals = append(s.Finals, f.Of(n))
	}
	return s, nil
}

// Check tells whether it is shown that the sum of products of d tables is what is claimed.
func Check(f *field.Field, claim, d int, s api.Summed, drawn []int) bool {
	if d < 1 || d > api.MaxTables || !hasPlaces(f, d) || len(drawn) > api.MaxCube || !isShown(d, s, len(drawn)) {
		return false
	}
	places := upTo(d)
	for i, told := range s.Rounds {
		if f.Add(told[0], told[1]) != f.Of(claim) {
			return false
		}
		a, err := poly.Fit(f, places, told)
		if err != nil {
			return false // there are as many numbers as places, and these are unlike, so this is not come to
		}
		claim = poly.Eval(f, a, drawn[i])
	}
	return product(f, s.Finals) == f.Of(claim)
}

// isShown tells whether there are as many numbers as are told of d tables in so many rounds: it looks at none of them.
func isShown(d int, s api.Summed, rounds int) bool {
	return len(s.Rounds) == rounds && len(s.Finals) == d &&
		every(s.Rounds, func(told []int) bool { return len(told) == d+1 })
}

// upTo gives 0 to d.
func upTo(d int) []int {
	out := make([]int, d+1)
	for i := range out {
		out[i] = i
	}
	return out
}
