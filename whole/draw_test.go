package whole

import (
	"slices"
	"testing"

	"attest/api"
	"attest/chain"
	"attest/field"
	"attest/plain"
	"attest/rules"
	"attest/sponge"
)

// covering are rows of the cells from 0 on, which are all 0: there is no Product with an x that is one of them.
func covering(cells int) [][]int {
	rows := make([][]int, (cells+3)/4)
	for i := range rows {
		rows[i] = make([]int, 21)
		for j := range 4 {
			rows[i][3+j] = min(4*i+j, cells-1)
		}
	}
	return rows
}

// firstBeyond tells how many pairs a chain draws whose x is one of so many cells, ahead of the first other one.
func firstBeyond(c *chain.Chain, cells int) int {
	for n := 0; ; n++ {
		x, _ := c.Draw(), c.Draw()
		if x >= cells {
			return n
		}
	}
}

// TestW5TooManyPairsInVain: no code has rows for which this comes to pass, but by the rarest chance; so rows that no code has
// are asked for.
func TestW5TooManyPairsInVain(t *testing.T) {
	t.Parallel()
	const p, cells = 193, 190
	f, err := field.New(p)
	if err != nil {
		t.Fatal(err)
	}
	s, err := sponge.New(f)
	if err != nil {
		t.Fatal(err)
	}
	met := map[int]int{}
	for label := range 2000 {
		begin := chain.New(s, []int{label})
		want := firstBeyond(begin.Fork(), cells)
		if want > 0 && want != 1 && want != 62 && want != 63 && want != 64 && want != 65 {
			continue
		}
		met[want]++
		z, by, tries, err := drawProduct(f, begin.Fork(), covering(cells))
		if want > api.MaxTries {
			if plain.Told(err) != api.ErrFull || len(z) > 0 || by != (numbers{}) || tries != 0 {
				t.Errorf("behind %d pairs in vain: got %v %v %d, error %v", want, z, by, tries, err)
			}
			continue
		}
		numbers := begin.Draws(2*want + 2)
		is, ok := rules.Product(f, covering(cells), by.x, by.y)
		if err != nil || !ok || tries != want || by.x != numbers[2*want] || by.y != numbers[2*want+1] || !slices.Equal(z, is) {
			t.Errorf("behind %d pairs in vain: got %v %v %d, error %v", want, z, by, tries, err)
		}
	}
	for _, tries := range []int{0, 1, 62, 63, 64, 65} {
		if met[tries] == 0 {
			t.Errorf("no chain draws %d pairs in vain", tries)
		}
	}
	_, _, _, err = drawProduct(f, chain.New(s, nil), covering(p))
	if plain.Told(err) != api.ErrFull {
		t.Errorf("where no x makes a Product: error %v", err)
	}
}
