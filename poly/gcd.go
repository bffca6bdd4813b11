package poly

import "attest/field"

// row of the search for what divides both a and b: is, which is u a + v b.
type row struct {
	is, u, v []int
}

// Gcd gives the greatest that divides both, and how it is made of them.
func Gcd(f *field.Field, a, b []int) (d, u, v []int) {
	last := lastRow(f, row{is: Trim(f, a), u: []int{1}}, row{is: Trim(f, b), v: []int{1}})
	if len(last.is) == 0 {
		return nil, nil, nil
	}
	inverse := f.Inv(last.is[len(last.is)-1])
	// What comes of Mul is fresh, so that no two of the three share memory.
	scaled := func(l []int) []int { return Mul(f, l, []int{inverse}) }
	return scaled(last.is), scaled(last.u), scaled(last.v)
}

// lastRow goes on from two rows to what the one leaves of the other, till nothing is left: the row
// ahead of that divides both.
func lastRow(f *field.Field, here, next row) row {
	for len(next.is) > 0 {
		q, r, err := Divide(f, here.is, next.is)
		if err != nil {
			return row{} // what is divided by is not zero, so this is not come to
		}
		left := func(x, y []int) []int { return Sub(f, x, Mul(f, q, y)) }
		here, next = next, row{is: r, u: left(here.u, next.u), v: left(here.v, next.v)}
	}
	return here
}
