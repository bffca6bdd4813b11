package poly

import (
	"slices"

	"attest/api"
	"attest/field"
)

// Fit gives the polynomial that goes through some points.
func Fit(f *field.Field, xs, ys []int) ([]int, error) {
	if len(xs) != len(ys) {
		return nil, api.ErrSize
	}
	if !areUnlike(f, xs) {
		return nil, api.ErrSame
	}
	whole := Vanish(f, xs)
	out := make([]int, len(xs))
	for i, inverse := range f.Invs(slopes(f, whole, xs)) {
		addWithoutRoot(f, out, whole, xs[i], f.Mul(ys[i], inverse))
	}
	return withoutEnd(f, out), nil
}

// areUnlike tells whether no two of a list are the same element.
func areUnlike(f *field.Field, xs []int) bool {
	elements := make([]int, len(xs))
	for i, x := range xs {
		elements[i] = f.Of(x)
	}
	slices.Sort(elements)
	return len(slices.Compact(elements)) == len(xs)
}

// slopes gives what the slope of a polynomial is at each of xs. Where the polynomial is the product
// of x - xs[j] of all of them, that is what this product without x - xs[i] is at xs[i].
func slopes(f *field.Field, whole, xs []int) []int {
	slope := Derive(f, whole)
	out := make([]int, len(xs))
	for i, x := range xs {
		out[i] = Eval(f, slope, x)
	}
	return out
}

// addWithoutRoot divides whole, which is 0 at root, by x - root, and adds so many times what comes of
// it to a list of elements that is the package's own.
func addWithoutRoot(f *field.Field, own, whole []int, root, times int) {
	place := 0
	for i := range own {
		to := len(own) - 1 - i
		place = f.Add(whole[to+1], f.Mul(place, root))
		own[to] = f.Add(own[to], f.Mul(place, times))
	}
}

// Vanish gives the polynomial that is 0 at some elements.
func Vanish(f *field.Field, xs []int) []int {
	out := make([]int, len(xs)+1)
	out[0] = 1
	for n, x := range xs {
		timesRoot(f, out[:n+2], x)
	}
	return out
}

// timesRoot multiplies a list of elements that is the package's own, and ends with a 0, by x - root.
func timesRoot(f *field.Field, own []int, root int) {
	for i := range own {
		place := len(own) - 1 - i
		own[place] = f.Sub(before(own, place), f.Mul(own[place], root))
	}
}

// before gives what stands a place ahead; ahead of the first place that is 0.
func before(own []int, place int) int {
	if place == 0 {
		return 0
	}
	return own[place-1]
}
