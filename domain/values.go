package domain

import (
	"slices"

	"attest/api"
	"attest/poly"
)

// Values gives what a polynomial is at all points.
func (d *Domain) Values(a []int) []int {
	out := d.wrapped(a)
	d.spread(out, make([]int, d.size), d.root)
	return out
}

// wrapped gives the polynomial of a degree below size that is at root^i what a is at the point at place i.
func (d *Domain) wrapped(a []int) []int {
	out := make([]int, d.size)
	power := 1
	for i, n := range a {
		// So many factors as the size make 1 of each power of root: what stands so far behind counts here.
		to := i % d.size
		out[to] = d.Add(out[to], d.Mul(n, power))
		power = d.Mul(power, d.shift)
	}
	return out
}

// spread puts in place of a polynomial what it is at root^0, root^1 and so on, root being of the order
// of its length, a power of 2. Both lists are the package's own, and of one length; what stands in spare
// is lost.
func (c circle) spread(own, spare []int, root int) {
	half := len(own) / 2
	if half == 0 {
		return
	}
	// With even and odd places apart it is even(x^2) + x odd(x^2), where x and -x, which stands half the
	// length further, have one square.
	even, odd := spare[:half], spare[half:]
	for i := range half {
		even[i], odd[i] = own[2*i], own[2*i+1]
	}
	square := c.Mul(root, root)
	c.spread(even, own[:half], square)
	c.spread(odd, own[half:], square)
	x := 1
	for i := range half {
		rest := c.Mul(x, odd[i])
		own[i], own[half+i] = c.Add(even[i], rest), c.Sub(even[i], rest)
		x = c.Mul(x, root)
	}
}

// Coefficients gives the polynomial that has these values.
func (d *Domain) Coefficients(values []int) ([]int, error) {
	if len(values) != d.size {
		return nil, api.ErrSize
	}
	// Summed up with the powers of root backwards, all places but one sum up to 0: what is left is size
	// times that one, with as many factors of shift as it has of x.
	out := slices.Clone(values)
	d.spread(out, make([]int, d.size), d.Inv(d.root))
	scale, step := d.Inv(d.size), d.Inv(d.shift)
	for i := range out {
		out[i] = d.Mul(out[i], scale)
		scale = d.Mul(scale, step)
	}
	return poly.Trim(d.Field(), out), nil
}
