package sums_test

import (
	"fmt"
	"math"
	"math/rand"
	"slices"
	"testing"

	"attest/api"
	"attest/field"
	"attest/sums"
)

// makeBy works Make out as U4 says it.
func makeBy(p int, tables [][]int, drawn []int) (s api.Summed) {
	for _, r := range drawn {
		var round []int
		for x := range len(tables) + 1 {
			round = append(round, totalBy(p, fixAllBy(p, tables, x)))
		}
		s.Rounds = append(s.Rounds, round)
		tables = fixAllBy(p, tables, r)
	}
	for _, table := range tables {
		s.Finals = append(s.Finals, element(table[0], p))
	}
	return s
}

// checkBy works Check out as U5 says it.
func checkBy(p, claim, d int, s api.Summed, drawn []int) bool {
	if d < 1 || d > 4 || d >= p || len(drawn) > 12 || len(s.Rounds) != len(drawn) || len(s.Finals) != d {
		return false
	}
	claim = element(claim, p)
	for i, round := range s.Rounds {
		if len(round) != d+1 || element(element(round[0], p)+element(round[1], p), p) != claim {
			return false
		}
		claim = fitBy(p, round, drawn[i])
	}
	product := 1
	for _, n := range s.Finals {
		product = times(product, n, p)
	}
	return product == claim
}

func copied(s api.Summed) (out api.Summed) {
	for _, round := range s.Rounds {
		out.Rounds = append(out.Rounds, slices.Clone(round))
	}
	out.Finals = slices.Clone(s.Finals)
	return out
}

// eachMade goes through what is made of tables of all numbers, over some numbers of variables.
func eachMade(t *testing.T, seed int64, work func(p int, f *field.Field, tables [][]int, drawn []int, s api.Summed)) {
	t.Helper()
	r := rand.New(rand.NewSource(seed))
	eachField(t, func(p int, f *field.Field) {
		for d := 1; d <= min(api.MaxTables, p-1); d++ {
			for _, v := range []int{0, 1, 2, 3, 5, api.MaxCube} {
				tables, drawn := someTables(r, p, d, v), someList(r, p, v)
				s, err := sums.Make(f, tables, drawn)
				told(t, err, api.OK, "p = %d: Make of %d over %d", p, d, v)
				work(p, f, tables, drawn, s)
			}
		}
	})
}

func TestU4MakeIsRoundsAndFinals(t *testing.T) {
	eachMade(t, 11, func(p int, f *field.Field, tables [][]int, drawn []int, s api.Summed) {
		what := fmt.Sprintf("p = %d: Make of %d over %d", p, len(tables), len(drawn))
		same(t, s, makeBy(p, tables, drawn), "%s", what)
		same(t, len(s.Rounds), len(drawn), "%s: Rounds", what)
		for i, table := range tables {
			is, err := sums.Extend(f, table, drawn)
			told(t, err, api.OK, "Extend")
			same(t, s.Finals[i], is, "%s: Finals", what)
		}
	})
}

func noSummed(t *testing.T, s api.Summed, err error, want api.Errno, what string, args ...any) {
	t.Helper()
	told(t, err, want, what, args...)
	if len(s.Rounds) != 0 || len(s.Finals) != 0 {
		t.Errorf("%s: got %v with an error", fmt.Sprintf(what, args...), s)
	}
}

func TestU4MakeOfWrongSizes(t *testing.T) {
	for _, p := range []int{3, 17} {
		f := fieldOf(t, p)
		for i, tables := range wrongTables() {
			for v := range 4 {
				s, err := sums.Make(f, tables, make([]int, v))
				noSummed(t, s, err, api.ErrSize, "p = %d: Make of wrong tables %d with %d", p, i, v)
			}
		}
		for d := 1; d <= api.MaxTables; d++ {
			for _, v := range []int{0, 1, 2, api.MaxCube} {
				for n := range api.MaxCube + 3 {
					if n != v {
						s, err := sums.Make(f, slices.Repeat([][]int{make([]int, 1<<v)}, d), make([]int, n))
						noSummed(t, s, err, api.ErrSize, "p = %d: Make of %d over %d with %d", p, d, v, n)
					}
				}
			}
		}
	}
}

func TestU4MakeNotBelowThePrime(t *testing.T) {
	for _, p := range []int{3, 5} {
		f := fieldOf(t, p)
		for d := 1; d <= api.MaxTables; d++ {
			for v := range 4 { // with no variable, too
				tables := slices.Repeat([][]int{slices.Repeat([]int{1}, 1<<v)}, d)
				s, err := sums.Make(f, tables, make([]int, v))
				if d < p {
					told(t, err, api.OK, "p = %d: Make of %d over %d", p, d, v)
					same(t, len(s.Finals), d, "p = %d: Make of %d over %d", p, d, v)
					continue
				}
				noSummed(t, s, err, api.ErrRange, "p = %d: Make of %d over %d", p, d, v)
			}
		}
	}
}

// TestU5CheckOfAnything: of few elements, so that what is told is taken now and then.
func TestU5CheckOfAnything(t *testing.T) {
	r := rand.New(rand.NewSource(12))
	for _, p := range []int{3, 5, 7} {
		f := fieldOf(t, p)
		taken := 0
		for range 20000 {
			d, v := r.Intn(5), r.Intn(3)
			s := api.Summed{Finals: someList(r, p, d)}
			for range v {
				s.Rounds = append(s.Rounds, someList(r, p, d+1))
			}
			claim, drawn := someNumber(r, p), someList(r, p, v)
			if v > 0 && d > 0 { // the first sum is most often right
				claim = element(s.Rounds[0][0], p) + element(s.Rounds[0][1], p)
			}
			want := checkBy(p, claim, d, s, drawn)
			same(t, sums.Check(f, claim, d, s, drawn), want, "p = %d: Check of %v with %d, %d and %v", p, s, claim, d, drawn)
			if want {
				taken++
			}
		}
		if taken < 100 {
			t.Errorf("p = %d: %d were taken: too few to tell", p, taken)
		}
	}
}

// TestU5EachNumberIsLookedAt: what is changed at one place is taken only where the words of U5 take it.
func TestU5EachNumberIsLookedAt(t *testing.T) {
	eachMade(t, 13, func(p int, f *field.Field, tables [][]int, drawn []int, s api.Summed) {
		d, claim := len(tables), totalBy(p, tables)
		ask := func(changed api.Summed, what string) {
			t.Helper()
			same(t, sums.Check(f, claim, d, changed, drawn), checkBy(p, claim, d, changed, drawn), "p = %d: %s", p, what)
		}
		for i := range s.Rounds {
			for j := range s.Rounds[i] {
				changed := copied(s)
				changed.Rounds[i][j]++
				ask(changed, fmt.Sprintf("number %d of Round %d, one more", j, i))
				if j < 2 {
					same(t, sums.Check(f, claim, d, changed, drawn), false, "p = %d: a wrong sum in Round %d", p, i)
				}
			}
		}
		for i := range s.Finals {
			changed := copied(s)
			changed.Finals[i]++
			ask(changed, fmt.Sprintf("Final %d, one more", i))
		}
	})
}

func TestU5TheLastRoundIsHeldAgainstFinals(t *testing.T) {
	f := fieldOf(t, 97)
	s := api.Summed{Rounds: [][]int{{1, 2, 5}}, Finals: []int{10, 1}} // x^2 + 1, which is 10 at 3
	same(t, sums.Check(f, 3, 2, s, []int{3}), true, "Check at 3")
	same(t, sums.Check(f, 3, 2, s, []int{-3}), true, "Check at -3")
	same(t, sums.Check(f, 3, 2, s, []int{4}), false, "Check at 4")
	s.Finals = []int{5, 2}
	same(t, sums.Check(f, 3, 2, s, []int{3}), true, "Check with a like product")
	s.Finals = []int{5, 3}
	same(t, sums.Check(f, 3, 2, s, []int{3}), false, "Check with an unlike product")
	same(t, sums.Check(f, 15, 2, api.Summed{Finals: []int{5, 3}}, nil), true, "Check of no variables")
	same(t, sums.Check(f, 14, 2, api.Summed{Finals: []int{5, 3}}, nil), false, "Check of no variables, something else claimed")
}

// TestU5NumbersAreElements: what differs by multiples of the prime makes no difference.
func TestU5NumbersAreElements(t *testing.T) {
	r := rand.New(rand.NewSource(14))
	eachMade(t, 15, func(p int, f *field.Field, tables [][]int, drawn []int, s api.Summed) {
		move := func(n int) int { return element(n, p) + p*(r.Intn(9)-4) }
		claim := move(totalBy(p, tables))
		moved, at := copied(s), slices.Clone(drawn)
		for i, round := range moved.Rounds {
			at[i] = move(at[i])
			for j := range round {
				round[j] = move(round[j])
			}
		}
		for i := range moved.Finals {
			moved.Finals[i] = move(moved.Finals[i])
		}
		same(t, sums.Check(f, claim, len(tables), moved, at), true, "p = %d: Check of other numbers for the same elements", p)
	})
}

// zeros shows that the sum of d tables of zeros is 0.
func zeros(d, v int) api.Summed {
	s := api.Summed{Finals: make([]int, max(0, d))}
	for range v {
		s.Rounds = append(s.Rounds, make([]int, max(0, d+1)))
	}
	return s
}

// TestU5WhatIsTooManyOrTooFew: all is 0, so that no number is wrong: only how many there are.
func TestU5WhatIsTooManyOrTooFew(t *testing.T) {
	for _, p := range []int{3, 5, 17, 2147483647} {
		f := fieldOf(t, p)
		for d := -2; d <= 8; d++ {
			for v := range api.MaxCube + 4 {
				want := d >= 1 && d <= 4 && d < p && v <= 12
				same(t, sums.Check(f, 0, d, zeros(d, v), make([]int, v)), want, "p = %d: Check of %d over %d", p, d, v)
			}
		}
		for _, d := range []int{math.MinInt, math.MinInt + 1, math.MaxInt, math.MaxInt - 1, p, p + 1, 1 << 32} {
			for n := range 4 {
				want := d == n && d < p && n > 0
				same(t, sums.Check(f, 0, d, zeros(n, 1), []int{0}), want, "p = %d: Check with %d", p, d)
			}
		}
	}
}

func TestU5NumbersOfRoundsAndFinals(t *testing.T) {
	f := fieldOf(t, 17)
	for d := 1; d <= api.MaxTables; d++ {
		for v := range api.MaxCube + 1 {
			for n := range api.MaxCube + 2 {
				same(t, sums.Check(f, 0, d, zeros(d, n), make([]int, v)), n == v, "Check of %d: %d Rounds, %d drawn", d, n, v)
			}
			for n := range 8 {
				s := zeros(d, v)
				s.Finals = make([]int, n)
				same(t, sums.Check(f, 0, d, s, make([]int, v)), n == d, "Check of %d: %d Finals", d, n)
				for i := range s.Rounds {
					s := zeros(d, v)
					s.Rounds[i] = make([]int, n)
					same(t, sums.Check(f, 0, d, s, make([]int, v)), n == d+1, "Check of %d: Round %d of %d has %d numbers", d, i, v, n)
				}
			}
		}
	}
}

func TestU6CheckTakesWhatMakeShows(t *testing.T) {
	eachMade(t, 16, func(p int, f *field.Field, tables [][]int, drawn []int, s api.Summed) {
		d := len(tables)
		total, err := sums.Total(f, tables)
		told(t, err, api.OK, "Total")
		same(t, sums.Check(f, total, d, s, drawn), true, "p = %d: Check of %d over %d", p, d, len(drawn))
		for _, more := range []int{1, 2, -1, p - 1, p + 1} { // the honest Rounds show nothing else
			same(t, sums.Check(f, total+more, d, s, drawn), false, "p = %d: Check of %d over %d, %d more claimed", p, d, len(drawn), more)
		}
	})
}

// eachTold goes through all lists of so many elements.
func eachTold(p, n int, work func(l []int)) {
	l := make([]int, n)
	for {
		work(l)
		i := 0
		for i < n && l[i] == p-1 {
			l[i] = 0
			i++
		}
		if i == n {
			return
		}
		l[i]++
	}
}

// TestU6AWrongSumIsHiddenByFew: whatever is told first, if it has the sum that is wrongly claimed: what is honestly made
// behind it is taken by Check just where what is claimed there is the Total of the tables Fixed.
func TestU6AWrongSumIsHiddenByFew(t *testing.T) {
	r := rand.New(rand.NewSource(17))
	for _, c := range []struct{ p, d int }{{3, 1}, {3, 2}, {5, 1}, {5, 2}, {5, 3}, {5, 4}, {7, 2}, {7, 3}} {
		f := fieldOf(t, c.p)
		tables := someTables(r, c.p, c.d, 2)
		total := totalBy(c.p, tables)
		most := 0
		last := r.Intn(c.p)
		behind := madeBehind(t, f, tables, last)
		eachTold(c.p, c.d+1, func(first []int) {
			claim := element(first[0]+first[1], c.p)
			if claim == total {
				return
			}
			hides := 0
			for x := range c.p {
				s := api.Summed{Rounds: slices.Concat([][]int{first}, behind[x].Rounds), Finals: behind[x].Finals}
				if sums.Check(f, claim, c.d, s, []int{x, last}) {
					hides++
				}
			}
			most = max(most, hides)
		})
		if most > c.d || most == 0 {
			t.Errorf("p = %d, %d tables: a wrong sum is hidden by %d elements", c.p, c.d, most)
		}
	}
}

// madeBehind gives, for each element, what is made of tables over two variables Fixed by it.
func madeBehind(t *testing.T, f *field.Field, tables [][]int, last int) (out []api.Summed) {
	t.Helper()
	for x := range f.P() {
		s, err := sums.Make(f, fixAllBy(f.P(), tables, x), []int{last})
		told(t, err, api.OK, "Make of what is Fixed by %d", x)
		out = append(out, s)
	}
	return out
}

// apart gives lists with memory behind each, and that memory.
func apart(lists [][]int) (given, memory [][]int) {
	for _, l := range lists {
		m := append(slices.Clone(l), 77, 78, 79)
		memory = append(memory, m)
		given = append(given, m[:len(l)])
	}
	return given, memory
}

// TestP2NothingHandedInIsWritten: neither the lists nor what stands behind them (P6).
func TestP2NothingHandedInIsWritten(t *testing.T) {
	r := rand.New(rand.NewSource(18))
	for _, p := range []int{5, 97} {
		f := fieldOf(t, p)
		for v := range 4 {
			lists, memory := apart(append(someTables(r, p, 3, v), someList(r, p, v)))
			tables, drawn := lists[:3:3], lists[3]
			before := fmt.Sprint(memory, tables)
			s, err := sums.Make(f, tables, drawn)
			told(t, err, api.OK, "Make")
			sums.Extend(f, tables[0], drawn)
			sums.Fix(f, tables[0], 3)
			sums.Total(f, tables)
			sums.Round(f, tables)
			same(t, fmt.Sprint(memory, tables), before, "what was handed in")

			rounds, behind := apart(s.Rounds)
			finals, end := apart([][]int{s.Finals})
			before = fmt.Sprint(behind, end, memory)
			sums.Check(f, totalBy(p, tables), 3, api.Summed{Rounds: rounds, Finals: finals[0]}, drawn)
			same(t, fmt.Sprint(behind, end, memory), before, "what was handed to Check")
		}
	}
}

// spoil writes all over a list, and behind it as far as its memory goes.
func spoil(l []int) {
	l = l[:cap(l)]
	for i := range l {
		l[i] = 99
	}
}

// TestP2WhatComesOutIsTheCallers: writing into one list changes no other one, nor what the next call answers.
func TestP2WhatComesOutIsTheCallers(t *testing.T) {
	r := rand.New(rand.NewSource(19))
	f := fieldOf(t, 97)
	for v := range 4 {
		tables, drawn := someTables(r, 97, 3, v), someList(r, 97, v)
		tables[2] = tables[1] // one list may be handed in twice
		given := fmt.Sprint(tables, drawn)
		s, err := sums.Make(f, tables, drawn)
		told(t, err, api.OK, "Make")
		kept := copied(s)
		for i := range s.Rounds {
			spoil(s.Rounds[i])
			same(t, s.Rounds[i+1:], kept.Rounds[i+1:], "Rounds behind %d", i)
			same(t, s.Finals, kept.Finals, "Finals")
		}
		spoil(s.Finals)
		if v > 0 {
			fixed, err := sums.Fix(f, tables[0], 0)
			told(t, err, api.OK, "Fix")
			spoil(fixed)
			round, err := sums.Round(f, tables)
			told(t, err, api.OK, "Round")
			spoil(round)
		}
		same(t, fmt.Sprint(tables, drawn), given, "what was handed in")
		again, err := sums.Make(f, tables, drawn)
		told(t, err, api.OK, "Make once more")
		same(t, again, kept, "Make once more")
	}
}
