package field

// remainder gives the number from 0 to m - 1 that differs from n by a multiple of m, which is above 0.
func remainder(n, m int) int {
	if 0 <= n && n < m {
		return n // most numbers that come are elements already, and to divide is dear
	}
	r := n % m
	if r < 0 {
		r += m
	}
	return r
}

// leastDivisor gives the least divisor above 1 of n, which is above 1: n itself, if n is a prime.
func leastDivisor(n int) int {
	for d := 2; d*d <= n; d++ {
		if n%d == 0 {
			return d
		}
	}
	return n
}

// primeDivisors gives the primes that divide n, which is above 0, ascending.
func primeDivisors(n int) []int {
	var out []int
	for n > 1 {
		d := leastDivisor(n)
		out = append(out, d)
		for n%d == 0 {
			n /= d
		}
	}
	return out
}
