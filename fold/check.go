package fold

import (
	"slices"

	"attest/api"
	"attest/chain"
	"attest/domain"
	"attest/poly"
	"attest/sponge"
	"attest/tree"
)

// Check tells whether it is shown, and at which places.
func Check(s *sponge.Sponge, c *chain.Chain, d *domain.Domain, k int, asked int, o api.Folded) ([]int, bool) {
	if !mayShow(d, k, asked) {
		return nil, false
	}
	over := domains(d, k)
	if len(o.Roots) != len(over)-1 {
		return nil, false
	}
	by := make([]int, len(o.Roots))
	for i, root := range o.Roots {
		c.Take(root)
		by[i] = c.Draw()
	}
	c.Take(o.Last)
	places := drawPlaces(c, d, asked)
	if poly.Degree(d.Field(), o.Last) >= min(k, api.MaxLast) {
		return nil, false
	}
	words, ok := shownWords(s, over, o, places)
	if !ok {
		return nil, false
	}
	for i, r := range by {
		if !foldsTo(over[i], words[i], words[i+1], r, places) {
			return nil, false
		}
	}
	return places, true
}

// known tells what a word has at a place at which it is shown.
type known func(place int) int

// shownWords gives what is known of each round's word and, behind them, of what the word is in the end;
// false: the rows are not those of the trees, or not those that are asked for.
func shownWords(s *sponge.Sponge, over []*domain.Domain, o api.Folded, places []int) ([]known, bool) {
	if len(o.Opens) != len(o.Roots) {
		return nil, false
	}
	var out []known
	for i, shown := range o.Opens {
		rows := over[i].Size() / 2
		if !arePairs(shown, within(places, rows)) || !tree.Check(s, o.Roots[i], rows, shown) {
			return nil, false
		}
		out = append(out, func(place int) int {
			at, _ := slices.BinarySearch(shown.Places, place%rows)
			return shown.Rows[at][place/rows]
		})
	}
	end := over[len(over)-1]
	last := poly.Trim(end.Field(), o.Last)
	return append(out, func(place int) int { return poly.Eval(end.Field(), last, end.Point(place)) }), true
}

// arePairs tells whether just these places are shown, each in a row of two elements.
func arePairs(o api.Opening, places []int) bool {
	isNone := func(row []int) bool { return len(row) != 2 }
	return slices.Equal(o.Places, places) && !slices.ContainsFunc(o.Rows, isNone)
}

// foldsTo tells whether a word, where it is looked at, is folded by r to what the next one has there.
func foldsTo(d *domain.Domain, now, next known, r int, places []int) bool {
	half := d.Size() / 2
	return !slices.ContainsFunc(within(places, half), func(at int) bool {
		is := joined(d.Field(), d.Point(at), now(at), now(at+half), r)
		return is != d.Field().Of(next(at))
	})
}
