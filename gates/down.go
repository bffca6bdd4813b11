package gates

import (
	"attest/chain"
	"attest/poly"
)

const told = 3 // numbers of a round: one more than the degree that Part has in each variable

// claimed is what a layer's Values are claimed to Extend to at a point.
type claimed struct {
	at []int
	is int
}

// answer draws what hangs on a list that is told.
func answer(said *chain.Chain, l []int) int {
	said.Take(l)
	return said.Draw()
}

// shown tells what shows that the Values Extend at z to what they do, by what those beneath Extend to at the next z.
func (l level) shown(said *chain.Chain, beneath, z []int) (rounds [][]int, line, next []int) {
	var drawn []int
	for range 2 * l.below {
		round := l.round(beneath, z, drawn)
		rounds, drawn = append(rounds, round), append(drawn, answer(said, round))
	}
	x, y := drawn[:l.below], drawn[l.below:]
	line = l.line(beneath, x, y)
	return rounds, line, l.between(x, y, answer(said, line))
}

// seen gives what is claimed beneath, if that shows what is claimed here.
func (l level) seen(said *chain.Chain, now claimed, rounds [][]int, line []int) (next claimed, ok bool) {
	if len(rounds) != 2*l.below || len(line) != l.below+1 {
		return claimed{}, false
	}
	var drawn []int
	is := now.is
	for _, round := range rounds {
		if len(round) != told || l.Add(round[0], round[1]) != is {
			return claimed{}, false
		}
		r := answer(said, round)
		drawn, is = append(drawn, r), l.through(round, r)
	}
	x, y := drawn[:l.below], drawn[l.below:]
	if l.ends(now.at, x, y, line) != is {
		return claimed{}, false
	}
	t := answer(said, line)
	return claimed{l.between(x, y, t), l.through(line, t)}, true
}

// ends is what Part is with all variables x and y, where a line tells what stands at these.
func (l level) ends(z, x, y, line []int) int {
	a, b := line[0], line[min(1, l.below)] // with no variable x and y are one point, and the line has one number
	sum := 0
	for kind := range kinds {
		sum = l.Add(sum, l.Mul(l.wire(kind, z, x, y), l.joined(kind, a, b)))
	}
	return sum
}

// through is what the polynomial that is told at 0, 1, .. is at an element.
func (l level) through(ys []int, at int) int {
	xs := make([]int, len(ys))
	for i := range xs {
		xs[i] = i
	}
	a, _ := poly.Fit(l.Field, xs, ys) // a sponge's prime is above all of these places, so no two are the same
	return poly.Eval(l.Field, a, at)
}
