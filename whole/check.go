package whole

import (
	"slices"

	"attest/api"
	"attest/chain"
	"attest/field"
	"attest/fold"
	"attest/rules"
	"attest/tree"
)

// Check tells whether a voucher shows that code comes to an outcome.
func Check(f *field.Field, c api.Code, outcome, n, asked int, v api.Voucher) bool {
	if !fits(f, c, n) || !mayAsk(asked) || v.Tries < 0 || v.Tries > api.MaxTries {
		return false
	}
	is, err := newClaim(f, c, outcome, n)
	if err != nil {
		return false
	}
	talk := is.chain(asked)
	by := redrawn(talk, v)
	drawn, ok := fold.Check(is.s, talk, is.wide, is.degree(), asked, v.Fold)
	return ok && is.isOpen(v, drawn) && is.isFolded(v, drawn, by)
}

// redrawn draws what was drawn when a voucher was made, up to where its word is folded.
func redrawn(talk *chain.Chain, v api.Voucher) (by numbers) {
	talk.Take(v.Main)
	for range v.Tries + 1 {
		by.x, by.y = talk.Draw(), talk.Draw()
	}
	talk.Take(v.Aux)
	by.a, by.g = talk.Draw(), talk.Draw()
	return by
}

// isOpen tells whether the rows of both trees are shown that have to be, where these places were drawn.
func (c *claim) isOpen(v api.Voucher, drawn []int) bool {
	places := slices.Compact(slices.Sorted(slices.Values(c.places(drawn))))
	isShown := func(root []int, o api.Opening, width int) bool {
		return slices.Equal(o.Places, places) && isWide(o.Rows, width) && tree.Check(c.s, root, c.wide.Size(), o)
	}
	return isShown(v.Main, v.Rows, rules.Width(c.code)) && isShown(v.Aux, v.Last, 1)
}

// isFolded tells whether what is folded is, at the places that were drawn, the word that the rows make. All of that is shown.
func (c *claim) isFolded(v api.Voucher, drawn []int, by numbers) bool {
	first := v.Fold.Opens[0]
	at := func(place int) spot {
		i, _ := slices.BinarySearch(v.Rows.Places, place)
		return spot{v.Rows.Rows[i], v.Last.Rows[i][0]}
	}
	return !slices.ContainsFunc(drawn, func(q int) bool {
		i, _ := slices.BinarySearch(first.Places, q)
		is, opposite := first.Rows[i][0], first.Rows[i][1]
		return c.Of(is) != c.word(q, at, by) || c.Of(opposite) != c.word(q+c.wide.Size()/2, at, by)
	})
}
