package whole

import (
	"slices"

	"attest/api"
	"attest/domain"
	"attest/field"
	"attest/poly"
	"attest/rules"
)

// Compose gives what all rules come to, over the wide domain.
func Compose(f *field.Field, c api.Code, outcome int, rows [][]int, z []int, x, y, a int) ([]int, error) {
	if !fits(f, c, len(rows)) || len(z) != len(rows) || !isWide(rows, rules.Width(c)) {
		return nil, api.ErrSize
	}
	is, err := newClaim(f, c, outcome, len(rows))
	if err != nil {
		return nil, err
	}
	main, err := is.spread(rows)
	if err != nil {
		return nil, err
	}
	aux, err := is.spread(oneEach(z))
	if err != nil {
		return nil, err
	}
	by, at := numbers{x: x, y: y, a: a}, within(main, aux)
	out := make([]int, len(main))
	for place := range out {
		out[place] = is.composed(place, at, by)
	}
	return out, nil
}

// isWide tells whether each row has just so many elements.
func isWide(rows [][]int, width int) bool {
	return !slices.ContainsFunc(rows, func(row []int) bool { return len(row) != width })
}

// oneEach gives a row for each element.
func oneEach(l []int) [][]int {
	rows := make([][]int, len(l))
	for i, n := range l {
		rows[i] = []int{n}
	}
	return rows
}

// spread gives what the columns of rows, of one width, are at the points of D, a row for each.
func (c *claim) spread(rows [][]int) ([][]int, error) {
	out := make([][]int, c.wide.Size())
	for i := range out {
		out[i] = make([]int, len(rows[0]))
	}
	for j := range rows[0] {
		column := make([]int, len(rows))
		for i, row := range rows {
			column[i] = row[j]
		}
		a, err := c.thin.Coefficients(column)
		if err != nil {
			return nil, err
		}
		for i, is := range c.wide.Values(a) {
			out[i][j] = is
		}
	}
	return out, nil
}

// numbers are those that are drawn.
type numbers struct{ x, y, a, g int }

// spot is what all columns are at a point, and what that of z is.
type spot struct {
	row []int
	z   int
}

// within finds the spots of all places.
func within(main, aux [][]int) func(place int) spot {
	return func(place int) spot { return spot{main[place], aux[place][0]} }
}

// word is what is folded, at a place: what Batch makes of Compose and all columns.
func (c *claim) word(place int, at func(place int) spot, by numbers) int {
	here := at(place)
	columns := slices.Concat(here.row, []int{here.z})
	return batched(c.wide, c.wide.Point(place), c.composed(place, at, by), columns, by.g)
}

// composed is what Compose has at a place.
func (c *claim) composed(place int, at func(place int) spot, by numbers) int {
	here, next := at(place), at(c.ahead(place))
	over := c.inverses(c.wide.Point(place))
	said := rules.Said(c.Field, c.code, c.outcome, here.row, next.row)
	for i, is := range said {
		said[i] = c.Mul(is, over[rules.RowsOf(c.code, i)])
	}
	passes := c.Mul(c.passes(here, next, by), over[rules.AllRows])
	begins := c.Mul(c.Sub(here.z, 1), over[rules.FirstRow])
	return poly.Eval(c.Field, append(said, passes, begins), by.a)
}

// passes is what the rule L + 26 says is 0.
func (c *claim) passes(here, next spot, by numbers) int {
	met, sorted := rules.Factors(c.Field, here.row, by.x, by.y)
	return c.Sub(c.Mul(next.z, sorted), c.Mul(here.z, met))
}

// inverses gives, for the rows that a rule says something of, the Inv of what is 0 at their points, and there alone, at a
// point of D.
func (c *claim) inverses(t int) (over [rules.LastRow + 1]int) {
	first, last := c.Sub(t, 1), c.Sub(t, c.thin.Point(-1))
	over[rules.AllRows] = c.Inv(c.Sub(c.Pow(t, c.thin.Size()), 1))
	over[rules.AllButLast] = c.Mul(over[rules.AllRows], last)
	over[rules.FirstRow] = c.Inv(first)
	over[rules.LastRow] = c.Inv(last)
	return over
}

// Batch makes one word of several.
func Batch(d *domain.Domain, first []int, words [][]int, g int) ([]int, error) {
	if d.Size() < step || len(first) != d.Size() || !isWide(words, d.Size()) {
		return nil, api.ErrSize
	}
	out := make([]int, d.Size())
	here := make([]int, len(words))
	for i, t := range d.Points() {
		for j, word := range words {
			here[j] = word[i]
		}
		out[i] = batched(d, t, first[i], here, g)
	}
	return out, nil
}

// batched is what Batch has at a point, where the words have these.
func batched(d *domain.Domain, t, first int, words []int, g int) int {
	// Each word comes twice, the second time with g t^(3 n) more: what both have in common is taken out.
	twice := d.Add(1, d.Mul(g, d.Pow(t, 3*(d.Size()/step))))
	sum := d.Mul(g, poly.Eval(d.Field(), words, d.Mul(g, g)))
	return d.Add(first, d.Mul(twice, sum))
}
