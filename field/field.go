// Package field has the numbers modulo a prime: see doc/01-field.md.
package field

import (
	"math/bits"
	"slices"

	"attest/api"
)

// Field is the numbers modulo a prime.
type Field struct {
	p int
}

// New makes the field of a prime.
func New(p int) (*Field, error) {
	// The bounds come first: beyond MaxPrime a product of two elements need not fit in an int.
	if p < 3 || p > api.MaxPrime || leastDivisor(p) != p {
		return nil, api.ErrPrime
	}
	return &Field{p: p}, nil
}

// P gives the prime.
func (f *Field) P() int { return f.p }

// Of gives the element that a number is taken for.
func (f *Field) Of(n int) int { return remainder(n, f.p) }

// Add gives the sum.
func (f *Field) Add(a, b int) int { return f.Of(f.Of(a) + f.Of(b)) }

// Sub gives the difference.
func (f *Field) Sub(a, b int) int { return f.Of(f.Of(a) - f.Of(b)) }

// Mul gives the product.
func (f *Field) Mul(a, b int) int { return f.Of(f.Of(a) * f.Of(b)) }

// Neg gives 0 less an element.
func (f *Field) Neg(a int) int { return f.Sub(0, a) }

// Inv gives what makes 1 of an element; of 0 it gives 0.
func (f *Field) Inv(a int) int {
	// p - 1 factors of what is not 0 make 1, so one fewer makes what is asked for; of 0 they make 0.
	return f.Pow(a, f.p-2)
}

// Div gives the quotient.
func (f *Field) Div(a, b int) int { return f.Mul(a, f.Inv(b)) }

// Pow gives a product of equal factors.
func (f *Field) Pow(a, n int) int {
	square := f.Of(a)
	if square == 0 && n != 0 {
		return 0
	}
	// p - 1 factors of what is not 0 make 1: so many more or fewer make no difference, and no exponent is below 0.
	exponent := remainder(n, f.p-1)
	power := 1
	for i := range bits.Len(uint(exponent)) {
		if exponent>>i&1 == 1 {
			power = f.Mul(power, square)
		}
		square = f.Mul(square, square)
	}
	return power
}

// Order tells after how many factors it is 1.
func (f *Field) Order(a int) int {
	if f.Of(a) == 0 {
		return 0
	}
	// The order divides p - 1: what is not needed of that is divided out.
	order := f.p - 1
	for _, q := range primeDivisors(order) {
		for order%q == 0 && f.Pow(a, order/q) == 1 {
			order /= q
		}
	}
	return order
}

// Generator gives the least element that makes all others.
func (f *Field) Generator() int {
	divisors := primeDivisors(f.p - 1)
	for a := range f.p {
		if a > 0 && f.isGenerator(a, divisors) {
			return a
		}
	}
	return 0 // a prime has a generator, so this is not come to
}

// isGenerator tells whether the order of an element that is not 0 is p - 1, whose prime divisors are given.
func (f *Field) isGenerator(a int, divisors []int) bool {
	// A lesser order would divide (p - 1) / q for one of them.
	for _, q := range divisors {
		if f.Pow(a, (f.p-1)/q) == 1 {
			return false
		}
	}
	return true
}

// Root gives an element of an order.
func (f *Field) Root(n int) int {
	if n < 1 || (f.p-1)%n != 0 {
		return 0
	}
	return f.Pow(f.Generator(), (f.p-1)/n)
}

// Sqrt gives the least element whose square it is; false: there is none.
func (f *Field) Sqrt(a int) (int, bool) {
	a = f.Of(a)
	if a == 0 {
		return 0, true
	}
	if !f.isSquare(a) {
		return 0, false
	}
	root := f.someRoot(a)
	return min(root, f.Neg(root)), true
}

// isSquare tells whether an element that is not 0 is a square.
func (f *Field) isSquare(a int) bool { return f.Pow(a, (f.p-1)/2) == 1 }

// someRoot gives one of the two elements whose square is a, which is a square and not 0.
func (f *Field) someRoot(a int) int {
	twos := bits.TrailingZeros(uint(f.p - 1))
	odd := (f.p - 1) >> twos
	// Throughout, the square of root is a times rest. Ahead of the round for k the order of rest
	// divides 2^k, and that of step is 2^(k+1); so in the end rest is 1.
	root, rest := f.Pow(a, (odd+1)/2), f.Pow(a, odd)
	step := f.Pow(f.leastNonSquare(), odd)
	for i := range twos - 1 {
		k := twos - 1 - i
		next := f.Mul(step, step)
		if f.Pow(rest, 1<<(k-1)) != 1 {
			root, rest = f.Mul(root, step), f.Mul(rest, next)
		}
		step = next
	}
	return root
}

// leastNonSquare gives the least element, from 1 on, that is no square.
func (f *Field) leastNonSquare() int {
	for a := range f.p {
		if a > 0 && !f.isSquare(a) {
			return a
		}
	}
	return 0 // half of the elements but 0 are no squares, so this is not come to
}

// Invs gives what makes 1 of each.
func (f *Field) Invs(l []int) []int {
	// Inv is dear and Mul is cheap: Inv is asked once, of the product of all that are not 0.
	out := make([]int, len(l))
	product := 1
	for i, a := range l {
		out[i] = product
		if f.Of(a) != 0 {
			product = f.Mul(product, a)
		}
	}
	inverse := f.Inv(product)
	for i, a := range slices.Backward(l) {
		if f.Of(a) == 0 {
			out[i] = 0
			continue
		}
		// Here inverse is that of the product of all up to this one, and out[i] is that of all ahead of it.
		out[i] = f.Mul(out[i], inverse)
		inverse = f.Mul(inverse, a)
	}
	return out
}
