package field_test

import (
	"math"
	"math/big"
	"slices"
	"testing"

	"attest/api"
	"attest/field"
	"attest/plain"
)

// smallPrimes are gone through whole; p - 1 is a power of 2, or has many divisors, or is twice a prime.
var smallPrimes = []int{3, 5, 7, 11, 13, 17, 31, 41, 47, 97, 193, 257}

// bigPrimes are those next to the bound, and some whose p - 1 is divided by 2 once, or many times.
var bigPrimes = []int{12289, 65537, 998244353, 2013265921, 2147483629, 2147483647}

// edges are numbers that are no elements of most fields, and those at which an int wraps round.
func edges(p int) []int {
	return []int{
		0, 1, 2, 3, p - 2, p - 1, p, p + 1, 2 * p, -1, -p, -p - 1, p / 2, p/2 + 1, p * p, 1000003,
		math.MaxInt32, math.MaxInt32 + 1, math.MinInt32, math.MaxInt - 1, math.MaxInt, math.MinInt, math.MinInt + 1,
	}
}

func fieldOf(t *testing.T, p int) *field.Field {
	t.Helper()
	f, err := field.New(p)
	if err != nil || f == nil {
		t.Fatalf("New(%d): %v", p, err)
	}
	return f
}

// element is reckoned by big numbers: what n is modulo p, from 0 on.
func element(n, p int) int {
	return int(new(big.Int).Mod(big.NewInt(int64(n)), big.NewInt(int64(p))).Int64())
}

// power is reckoned by big numbers, for n of any sign.
func power(a, n, p int) int {
	if element(a, p) == 0 {
		if n == 0 {
			return 1
		}
		return 0
	}
	return int(new(big.Int).Exp(big.NewInt(int64(element(a, p))), big.NewInt(int64(n)), big.NewInt(int64(p))).Int64())
}

func isPrime(p int) bool { return p > 1 && big.NewInt(int64(p)).ProbablyPrime(0) }

func TestF1NewTakesThePrimesAlone(t *testing.T) {
	ask := func(p int) {
		f, err := field.New(p)
		if p >= 3 && p <= api.MaxPrime && isPrime(p) {
			if err != nil || f == nil || f.P() != p {
				t.Errorf("New(%d): %v, want the field", p, err)
			}
		} else if f != nil || plain.Told(err) != api.ErrPrime {
			t.Errorf("New(%d): %v and %v, want nil and ErrPrime", p, f, err)
		}
	}
	for p := -10; p < 3000; p++ {
		ask(p)
	}
	for p := api.MaxPrime - 200; p < api.MaxPrime+200; p++ {
		ask(p)
	}
	// Squares of primes, products of two primes side by side, a prime above the bound, ints at the ends.
	for _, p := range []int{46337 * 46337, 46327 * 46337, 46309 * 46307, 4294967291, 1 << 31, math.MaxInt, math.MinInt} {
		ask(p)
	}
}

func TestF1OfGivesElements(t *testing.T) {
	for _, p := range slices.Concat(smallPrimes, bigPrimes) {
		f := fieldOf(t, p)
		for _, n := range edges(p) {
			if got, want := f.Of(n), element(n, p); got != want {
				t.Errorf("p = %d: Of(%d) = %d, want %d", p, n, got, want)
			}
		}
	}
}

// TestF2Reckoning holds the four against big numbers, and Inv and Div against what they are said to be.
func TestF2Reckoning(t *testing.T) {
	for _, p := range slices.Concat(smallPrimes, bigPrimes) {
		f := fieldOf(t, p)
		m := big.NewInt(int64(p))
		for _, a := range edges(p) {
			x := big.NewInt(int64(a))
			for _, b := range edges(p) {
				y := big.NewInt(int64(b))
				is := func(name string, got int, want *big.Int) {
					if w := int(want.Mod(want, m).Int64()); got != w {
						t.Errorf("p = %d: %s of %d and %d = %d, want %d", p, name, a, b, got, w)
					}
				}
				is("Add", f.Add(a, b), new(big.Int).Add(x, y))
				is("Sub", f.Sub(a, b), new(big.Int).Sub(x, y))
				is("Mul", f.Mul(a, b), new(big.Int).Mul(x, y))
				is("Neg", f.Neg(a), new(big.Int).Neg(x))
				checkDiv(t, f, a, b)
			}
		}
	}
}

func checkDiv(t *testing.T, f *field.Field, a, b int) {
	t.Helper()
	p, inv, div := f.P(), f.Inv(b), f.Div(a, b)
	if inv < 0 || inv >= p || div < 0 || div >= p {
		t.Errorf("p = %d: Inv(%d) = %d, Div(%d, %d) = %d, which are no elements", p, b, inv, a, b, div)
	}
	if element(b, p) == 0 {
		if inv != 0 || div != 0 {
			t.Errorf("p = %d: Inv(%d) = %d, Div(%d, %d) = %d, want 0", p, b, inv, a, b, div)
		}
		return
	}
	if element(inv*element(b, p), p) != 1 {
		t.Errorf("p = %d: Inv(%d) = %d, whose product with it is not 1", p, b, inv)
	}
	if element(div*element(b, p), p) != element(a, p) {
		t.Errorf("p = %d: Div(%d, %d) = %d, whose product with the second is not the first", p, a, b, div)
	}
}

func TestF2InvOfEachElement(t *testing.T) {
	for _, p := range smallPrimes {
		f := fieldOf(t, p)
		for a := range p {
			checkDiv(t, f, 1, a)
		}
	}
}

func TestF3PowIsFactorByFactor(t *testing.T) {
	for _, p := range smallPrimes {
		f := fieldOf(t, p)
		for a := range p {
			above, below := 1, 1
			for n := range 2*p + 3 {
				if got := f.Pow(a, n); got != above {
					t.Fatalf("p = %d: Pow(%d, %d) = %d, want %d", p, a, n, got, above)
				}
				if got := f.Pow(a, -n); got != below {
					t.Fatalf("p = %d: Pow(%d, %d) = %d, want %d", p, a, -n, got, below)
				}
				above, below = above*a%p, below*f.Inv(a)%p
			}
		}
	}
}

func TestF3PowOfAnyNumbers(t *testing.T) {
	for _, p := range slices.Concat(smallPrimes, bigPrimes) {
		f := fieldOf(t, p)
		for _, a := range edges(p) {
			for _, n := range edges(p) {
				if got, want := f.Pow(a, n), power(a, n, p); got != want {
					t.Errorf("p = %d: Pow(%d, %d) = %d, want %d", p, a, n, got, want)
				}
			}
		}
	}
}

// orderOf counts factors.
func orderOf(a, p int) int {
	if a == 0 {
		return 0
	}
	n := 1
	for x := a; x != 1; x = x * a % p {
		n++
	}
	return n
}

func TestF4OrderAndGenerator(t *testing.T) {
	for _, p := range smallPrimes {
		f := fieldOf(t, p)
		least := 0
		for a := range p {
			want := orderOf(a, p)
			for _, n := range []int{a, a - p, a + 1000*p} {
				if got := f.Order(n); got != want {
					t.Errorf("p = %d: Order(%d) = %d, want %d", p, n, got, want)
				}
			}
			if least == 0 && want == p-1 {
				least = a
			}
		}
		if got := f.Generator(); got != least {
			t.Errorf("p = %d: Generator() = %d, want %d", p, got, least)
		}
	}
}

func TestF4RootOfSmallPrimes(t *testing.T) {
	for _, p := range smallPrimes {
		f := fieldOf(t, p)
		for n := -p; n <= 2*p; n++ {
			got := f.Root(n)
			if n < 1 || (p-1)%n != 0 {
				if got != 0 {
					t.Errorf("p = %d: Root(%d) = %d, want 0", p, n, got)
				}
				continue
			}
			if want := power(f.Generator(), (p-1)/n, p); got != want || orderOf(got, p) != n {
				t.Errorf("p = %d: Root(%d) = %d, want %d", p, n, got, want)
			}
		}
		for _, n := range []int{math.MinInt, -p + 1, math.MaxInt} {
			if got := f.Root(n); got != 0 {
				t.Errorf("p = %d: Root(%d) = %d, want 0", p, n, got)
			}
		}
	}
}

// TestF4BigPrimes: the generators are known ones; the orders of the elements ahead of them are less.
func TestF4BigPrimes(t *testing.T) {
	known := []int{11, 3, 3, 31, 2, 7}
	for i, p := range bigPrimes {
		f := fieldOf(t, p)
		g := f.Generator()
		if g != known[i] || f.Order(g) != p-1 {
			t.Errorf("p = %d: Generator() = %d of order %d, want %d", p, g, f.Order(g), known[i])
		}
		for a := range g {
			if n := f.Order(a); n >= p-1 || a > 0 && power(a, n, p) != 1 {
				t.Errorf("p = %d: Order(%d) = %d", p, a, n)
			}
		}
		for n := 1; (p-1)%n == 0; n *= 2 {
			if got, want := f.Root(n), power(g, (p-1)/n, p); got != want || f.Order(got) != n {
				t.Errorf("p = %d: Root(%d) = %d, want %d", p, n, got, want)
			}
		}
	}
}

// leastRoot tries all elements; -1: there is none.
func leastRoot(a, p int) int {
	for r := range p {
		if r*r%p == a {
			return r
		}
	}
	return -1
}

func TestF5SqrtOfEachElement(t *testing.T) {
	for _, p := range smallPrimes {
		f := fieldOf(t, p)
		for a := range p {
			want := leastRoot(a, p)
			for _, n := range []int{a, a - p, a + 1000*p} {
				got, ok := f.Sqrt(n)
				if ok != (want >= 0) || got != max(want, 0) {
					t.Errorf("p = %d: Sqrt(%d) = %d, %v, want %d", p, n, got, ok, want)
				}
			}
			if has := a == 0 || power(a, (p-1)/2, p) == 1; has != (want >= 0) {
				t.Errorf("p = %d: %d is a square: %v", p, a, want >= 0)
			}
		}
	}
}

func TestF5SqrtOfBigPrimes(t *testing.T) {
	for _, p := range bigPrimes {
		f := fieldOf(t, p)
		for i := range 300 {
			a := element(i*1234577*i, p)
			if i < 100 {
				a = i
			}
			checkSqrt(t, f, a)
			checkSqrt(t, f, element(a*a, p))
		}
		for _, a := range edges(p) {
			checkSqrt(t, f, a)
		}
	}
}

// checkSqrt asks what is said of the answer: the lesser one of a root and its Neg is at most (p - 1) / 2.
func checkSqrt(t *testing.T, f *field.Field, a int) {
	t.Helper()
	p := f.P()
	r, ok := f.Sqrt(a)
	has := element(a, p) == 0 || power(a, (p-1)/2, p) == 1
	if ok != has || !ok && r != 0 {
		t.Errorf("p = %d: Sqrt(%d) = %d, %v, want %v", p, a, r, ok, has)
	}
	if ok && (r < 0 || r > (p-1)/2 || element(r*r, p) != element(a, p)) {
		t.Errorf("p = %d: Sqrt(%d) = %d, which is not its least root", p, a, r)
	}
}

func TestF6InvsAreTheInvOfEach(t *testing.T) {
	for _, p := range slices.Concat(smallPrimes, bigPrimes) {
		f := fieldOf(t, p)
		lists := [][]int{nil, {}, {0}, {0, 0}, {p, 1}, {1, 0}, {0, 2, 0, 2, 0}, {2, 2, 2}, {p - 1}, edges(p), slices.Repeat(edges(p), 20)}
		for _, l := range lists {
			got := f.Invs(l)
			if len(got) != len(l) {
				t.Fatalf("p = %d: Invs(%v) has %d elements, want %d", p, l, len(got), len(l))
			}
			for i, a := range l {
				if got[i] != f.Inv(a) {
					t.Errorf("p = %d: Invs(%v)[%d] = %d, want %d", p, l, i, got[i], f.Inv(a))
				}
			}
		}
	}
}

// TestF6InvsLeavesItsListAlone: neither it nor what stands behind it in memory is written, and the answer is new memory (P2, P6).
func TestF6InvsLeavesItsListAlone(t *testing.T) {
	f := fieldOf(t, 17)
	memory := []int{3, 20, 0, -1, 5, 6}
	kept := slices.Clone(memory)
	got := f.Invs(memory[:4])
	if want := []int{6, 6, 0, 16}; !slices.Equal(got, want) {
		t.Errorf("Invs = %v, want %v", got, want)
	}
	got = append(got, 9)
	for i := range got {
		got[i] = 9
	}
	if !slices.Equal(memory, kept) {
		t.Errorf("what was handed in became %v, and was %v", memory, kept)
	}
	memory[0] = 1
	if again := f.Invs(kept[:4]); !slices.Equal(again, []int{6, 6, 0, 16}) {
		t.Errorf("Invs, asked once more, = %v", again)
	}
}

func TestTableOfTheDocument(t *testing.T) {
	f := fieldOf(t, 17)
	got := []int{f.Of(-1), f.Add(9, 9), f.Inv(3), f.Div(1, 0), f.Pow(2, -1), f.Pow(0, 0), f.Order(2), f.Generator(), f.Root(4), f.Root(3)}
	if want := []int{16, 1, 6, 0, 9, 1, 8, 3, 13, 0}; !slices.Equal(got, want) {
		t.Errorf("got %v, want %v", got, want)
	}
	if r, ok := f.Sqrt(2); r != 6 || !ok {
		t.Errorf("Sqrt(2) = %d, %v, want 6, true", r, ok)
	}
	if r, ok := f.Sqrt(3); r != 0 || ok {
		t.Errorf("Sqrt(3) = %d, %v, want 0, false", r, ok)
	}
}
