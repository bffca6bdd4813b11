package code

import (
	"attest/domain"
	"attest/poly"
)

// Decode gives the polynomial that a word is of, but for a few places.
func Decode(d *domain.Domain, k int, word, gone []int) (a, wrong []int, ok bool) {
	if !mayBound(d, k) || len(word) != d.Size() {
		return nil, nil, false
	}
	lost := lostPlaces(d.Size(), gone)
	points := lostPoints(d, lost)
	spare := d.Size() - k - len(points)
	if spare < 0 {
		return nil, nil, false
	}
	a = likeliest(d, word, points, spare)
	// A word that is too far from all codewords leads to any polynomial: what counts is seen only here.
	values, err := Encode(d, k, a)
	if err != nil {
		return nil, nil, false
	}
	wrong = wrongPlaces(d, values, word, lost)
	if 2*len(wrong) > spare {
		return nil, nil, false
	}
	return a, wrong, true
}

// lostPlaces tells of each place whether it is gone.
func lostPlaces(size int, gone []int) []bool {
	out := make([]bool, size)
	for _, place := range gone {
		if 0 <= place && place < size {
			out[place] = true
		}
	}
	return out
}

// lostPoints gives the points at the places that are lost.
func lostPoints(d *domain.Domain, lost []bool) []int {
	var out []int
	for place, point := range d.Points() {
		if lost[place] {
			out = append(out, point)
		}
	}
	return out
}

// wrongPlaces gives the places, but for those that are lost, at which the word differs from the values.
func wrongPlaces(d *domain.Domain, values, word []int, lost []bool) []int {
	var out []int
	for place, value := range values {
		if !lost[place] && value != d.Of(word[place]) {
			out = append(out, place)
		}
	}
	return out
}

// likeliest gives the polynomial whose values differ from the word at no more than spare / 2 places
// beside the lost points. Where there is none it gives any polynomial.
func likeliest(d *domain.Domain, word, lost []int, spare int) []int {
	f := d.Field()
	unknown := poly.Vanish(f, lost)
	// Where the word is not to be trusted doubt is 0, so that times it the word is what it ought to be.
	doubt := poly.Mul(f, unknown, locator(d, times(d, word, unknown), spare))
	a, _, err := poly.Divide(f, times(d, word, doubt), doubt)
	if err != nil {
		return nil // neither factor of doubt is zero, so this is not come to
	}
	return a
}

// times gives the polynomial of a degree below the size whose values are the word, times those of a.
func times(d *domain.Domain, word, a []int) []int {
	values := d.Values(a)
	for i := range values {
		values[i] = d.Mul(values[i], word[i])
	}
	out, err := d.Coefficients(values)
	if err != nil {
		return nil // there are as many values as points, so this is not come to
	}
	return out
}

// locator gives the polynomial that is 0 just at the points where the values of a are not those of
// some one of a degree below size - spare, if these points are at most spare / 2. Else it gives any
// polynomial but zero.
func locator(d *domain.Domain, a []int, spare int) []int {
	f := d.Field()
	// What is wrong alone puts anything at the last spare places of a. What stands there, times the
	// locator, has a degree below spare / 2, but for a multiple of x^spare; and the locator is the
	// least that does so. Euclid's way, from x^spare on, comes to it: throughout, next is what stands
	// there times factor, but for such a multiple.
	here, next := power(spare), a[min(d.Size()-spare, len(a)):]
	before, factor := []int{}, []int{1}
	for 2*poly.Degree(f, next) >= spare {
		q, r, err := poly.Divide(f, here, next)
		if err != nil {
			return factor // the degree of zero is below 0, so this is not come to
		}
		here, next = next, r
		before, factor = factor, poly.Sub(f, before, poly.Mul(f, q, factor))
	}
	return factor
}

// power gives x^n.
func power(n int) []int {
	out := make([]int, n+1)
	out[n] = 1
	return out
}
