package whole

import (
	"attest/api"
	"attest/chain"
	"attest/field"
	"attest/fold"
	"attest/rules"
	"attest/tree"
)

// Make gives a voucher for a run, and its outcome.
func Make(f *field.Field, c api.Code, n, asked int) (api.Voucher, int, error) {
	if !fits(f, c, n) || !mayAsk(asked) {
		return api.Voucher{}, 0, api.ErrSize
	}
	rows, outcome, err := rules.Table(f, c, n)
	if err != nil {
		return api.Voucher{}, 0, err
	}
	is, err := newClaim(f, c, outcome, n)
	if err != nil {
		return api.Voucher{}, 0, err
	}
	v, err := is.vouched(rows, asked)
	if err != nil {
		return api.Voucher{}, 0, err
	}
	return v, outcome, nil
}

// vouched is Make of rows that show the claim.
func (c *claim) vouched(rows [][]int, asked int) (v api.Voucher, err error) {
	talk := c.chain(asked)
	main, root, err := c.told(talk, rows)
	if err != nil {
		return v, err
	}
	v.Main = root
	z, by, tries, err := drawProduct(c.Field, talk, rows)
	if err != nil {
		return v, err
	}
	v.Tries = tries
	aux, root, err := c.told(talk, oneEach(z))
	if err != nil {
		return v, err
	}
	v.Aux = root
	by.a, by.g = talk.Draw(), talk.Draw()
	folded, drawn, err := fold.Make(c.s, talk, c.wide, c.degree(), c.wholeWord(main, aux, by), asked)
	if err != nil {
		return v, err
	}
	v.Fold = folded
	if v.Rows, err = tree.Open(c.s, main, c.places(drawn)); err != nil {
		return v, err
	}
	v.Last, err = tree.Open(c.s, aux, c.places(drawn))
	return v, err
}

// told spreads rows, and tells the chain the root of what they become.
func (c *claim) told(talk *chain.Chain, rows [][]int) (wide [][]int, root []int, err error) {
	wide, err = c.spread(rows)
	if err != nil {
		return nil, nil, err
	}
	root, err = tree.Root(c.s, wide)
	if err != nil {
		return nil, nil, err
	}
	talk.Take(root)
	return wide, root, nil
}

// drawProduct draws x and y, again and again, till there is a Product with them: its list, these, and how often there was none.
func drawProduct(f *field.Field, talk *chain.Chain, rows [][]int) ([]int, numbers, int, error) {
	for tries := range api.MaxTries + 1 {
		by := numbers{x: talk.Draw(), y: talk.Draw()}
		if z, ok := rules.Product(f, rows, by.x, by.y); ok {
			return z, by, tries, nil
		}
	}
	return nil, numbers{}, 0, api.ErrFull
}

// wholeWord is the word that is folded, at all places.
func (c *claim) wholeWord(main, aux [][]int, by numbers) []int {
	out, at := make([]int, len(main)), within(main, aux)
	for place := range out {
		out[place] = c.word(place, at, by)
	}
	return out
}
