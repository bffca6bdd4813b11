package fold

import (
	"math/bits"
	"slices"

	"attest/api"
	"attest/chain"
	"attest/code"
	"attest/domain"
	"attest/sponge"
	"attest/tree"
)

// Make shows that a word is of low degree.
func Make(s *sponge.Sponge, c *chain.Chain, d *domain.Domain, k int, word []int, asked int) (api.Folded, []int, error) {
	if !mayShow(d, k, asked) || len(word) != d.Size() {
		return api.Folded{}, nil, api.ErrSize
	}
	if !code.Is(d, k, word) {
		return api.Folded{}, nil, api.ErrRange
	}
	own := c.Fork() // so that no error leaves the chain halfway
	o, places, err := made(s, own, domains(d, k), word, asked)
	if err != nil {
		return api.Folded{}, nil, err
	}
	*c = *own
	return o, places, nil
}

// mayShow tells whether words over a domain may be shown to be of a degree below k, by so many places.
func mayShow(d *domain.Domain, k, asked int) bool {
	return 1 <= k && k <= d.Size()/2 && bits.OnesCount(uint(k)) == 1 && 1 <= asked && asked <= api.MaxAsk
}

// domains gives that of each round's word and, behind them, that of what the word is in the end.
func domains(d *domain.Domain, k int) []*domain.Domain {
	out := []*domain.Domain{d}
	for ; k > api.MaxLast; k /= 2 {
		half, err := d.Half()
		if err != nil {
			break // there are always more points than k, so this is not come to
		}
		d = half
		out = append(out, d)
	}
	return out
}

// made is Make of a codeword; over are its domains.
func made(s *sponge.Sponge, c *chain.Chain, over []*domain.Domain, word []int, asked int) (o api.Folded, places []int, err error) {
	var trees [][][]int // the rows of each round
	end := len(over) - 1
	for _, d := range over[:end] {
		rows := pairs(word)
		root, err := tree.Root(s, rows)
		if err != nil {
			return o, nil, err
		}
		c.Take(root)
		word = folded(d, word, c.Draw())
		o.Roots, trees = append(o.Roots, root), append(trees, rows)
	}
	o.Last, err = over[end].Coefficients(word)
	if err != nil {
		return o, nil, err
	}
	c.Take(o.Last)
	places = drawPlaces(c, over[0], asked)
	for _, rows := range trees {
		shown, err := tree.Open(s, rows, within(places, len(rows)))
		if err != nil {
			return o, nil, err
		}
		o.Opens = append(o.Opens, shown)
	}
	return o, places, nil
}

// pairs gives the rows of a round's tree: what stands at a point, and at its Neg.
func pairs(word []int) [][]int {
	out := make([][]int, len(word)/2)
	for i := range out {
		out[i] = []int{word[i], word[i+len(out)]}
	}
	return out
}

// drawPlaces draws the places of the first tree that are looked at.
func drawPlaces(c *chain.Chain, d *domain.Domain, asked int) []int {
	out := make([]int, asked)
	for i := range out {
		out[i] = c.Place(d.Size() / 2)
	}
	return out
}

// within gives, ascending, where places come to in a tree of so many rows.
func within(places []int, rows int) []int {
	out := make([]int, len(places))
	for i, at := range places {
		out[i] = at % rows
	}
	slices.Sort(out)
	return slices.Compact(out)
}
