package rules_test

import (
	"math"
	"math/rand"
	"testing"

	"attest/api"
	"attest/rules"
)

// wildRow is a row of a width, of any numbers.
func wildRow(r *rand.Rand, width int) []int {
	row := make([]int, width)
	for i := range row {
		row[i] = int(r.Uint64())
		if r.Intn(3) == 0 {
			row[i] = r.Intn(3)
		}
	}
	return row
}

func TestR2SaidOfAnyRows(t *testing.T) {
	r := rand.New(rand.NewSource(215))
	for range 400 {
		p := primes[r.Intn(len(primes))]
		c := wildCode(r, p)
		if len(c.List) == 0 {
			continue
		}
		row, next, outcome := wildRow(r, rules.Width(c)), wildRow(r, rules.Width(c)), int(r.Uint64())
		got := rules.Said(fieldOf(t, p), c, outcome, row, next)
		same(t, len(got), len(c.List)+26, "how many rules there are of %v", c)
		here := reading{p: p, c: c, outcome: outcome, row: row, next: next}
		for rule, is := range got {
			want, of := here.says(rule)
			same(t, is, want, "what rule %d of %v over %d says of %v and %v", rule, c, p, row, next)
			same(t, int(rules.RowsOf(c, rule)), of, "of which rows rule %d of %v says something", rule, c)
		}
	}
}

func TestR2SaidOfWrongRows(t *testing.T) {
	f, c := fieldOf(t, 97), five()
	right := make([]int, 22)
	for _, wide := range []int{0, 1, 19, 20, 21, 23, 100} {
		wrong := make([]int, wide)
		for _, rows := range [][2][]int{{wrong, right}, {right, wrong}, {wrong, wrong}} {
			same(t, len(rules.Said(f, c, 5, rows[0], rows[1])), 0, "what is said of rows of %d and %d elements", len(rows[0]), len(rows[1]))
		}
	}
	same(t, len(rules.Said(f, api.Code{}, 5, make([]int, 20), make([]int, 20))), 0, "what is said where there is no instruction")
	for _, rule := range []int{math.MinInt, -1, 0, 13} {
		same(t, rules.RowsOf(c, rule), rules.AllRows, "of which rows rule %d says something", rule)
	}
	for _, rule := range []int{27, 28, math.MaxInt} {
		same(t, rules.RowsOf(c, rule), rules.LastRow, "of which rows rule %d says something", rule)
	}
}

func TestR5Factors(t *testing.T) {
	r := rand.New(rand.NewSource(515))
	for range 2000 {
		p := primes[r.Intn(len(primes))]
		row, x, y := wildRow(r, r.Intn(24)), int(r.Uint64()), r.Intn(9)-4
		met, sorted := 0, 0
		if len(row) >= 20 {
			met, sorted = 1, 1
			for j := range 4 {
				met = met * factors(p, row, 3, 7, x, y)[j] % p
				sorted = sorted * factors(p, row, 12, 16, x, y)[j] % p
			}
		}
		gotMet, gotSorted := rules.Factors(fieldOf(t, p), row, x, y)
		same(t, []int{gotMet, gotSorted}, []int{met, sorted}, "Factors over %d of %v with %d and %d", p, row, x, y)
	}
}
