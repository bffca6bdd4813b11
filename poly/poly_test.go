package poly_test

import (
	"fmt"
	"math"
	"math/big"
	"math/rand"
	"slices"
	"testing"

	"attest/api"
	"attest/field"
	"attest/plain"
	"attest/poly"
)

var primes = []int{3, 5, 17, 97, 257, 12289, 2013265921, 2147483647}

func fieldOf(t *testing.T, p int) *field.Field {
	t.Helper()
	f, err := field.New(p)
	if err != nil || f == nil {
		t.Fatalf("New(%d): %v", p, err)
	}
	return f
}

// whole is a polynomial over the whole numbers: the tests reckon in these, and go over to elements in the end.
type whole []*big.Int

func wholeOf(a []int) whole {
	out := make(whole, len(a))
	for i, n := range a {
		out[i] = big.NewInt(int64(n))
	}
	return out
}

func (a whole) at(i int) *big.Int {
	if i < len(a) {
		return a[i]
	}
	return new(big.Int)
}

func (a whole) plus(b whole, sign int64) whole {
	out := make(whole, max(len(a), len(b)))
	for i := range out {
		out[i] = new(big.Int).Add(a.at(i), new(big.Int).Mul(big.NewInt(sign), b.at(i)))
	}
	return out
}

func (a whole) times(b whole) whole {
	out := make(whole, len(a)+len(b))
	for i := range out {
		out[i] = new(big.Int)
	}
	for i, x := range a {
		for j, y := range b {
			out[i+j].Add(out[i+j], new(big.Int).Mul(x, y))
		}
	}
	return out
}

// elements gives the polynomial over the field, as an answer has to be: elements, the last one not 0.
func (a whole) elements(p int) []int {
	var out []int
	for _, n := range a {
		out = append(out, int(new(big.Int).Mod(n, big.NewInt(int64(p))).Int64()))
	}
	for len(out) > 0 && out[len(out)-1] == 0 {
		out = out[:len(out)-1]
	}
	return out
}

func (a whole) is(x, p int) int {
	sum := new(big.Int)
	for i, n := range a {
		power := new(big.Int).Exp(big.NewInt(int64(x)), big.NewInt(int64(i)), nil)
		sum.Add(sum, power.Mul(power, n))
	}
	return int(sum.Mod(sum, big.NewInt(int64(p))).Int64())
}

// same tells whether two lists are the same one, empty or nil.
func same(t *testing.T, got, want []int, what string, args ...any) {
	t.Helper()
	if !slices.Equal(got, want) {
		t.Errorf("%s: got %v, want %v", fmt.Sprintf(what, args...), got, want)
	}
}

// lists are the edges: zeros and multiples of p at the end and elsewhere, numbers that are no elements, ints at the ends.
func lists(p int) [][]int {
	return [][]int{
		nil, {}, {0}, {0, 0}, {p, -p, 0}, {1}, {-1}, {p - 1}, {p}, {2, p}, {0, 1}, {1, 1}, {p - 1, 1}, {p - 1, 0, 1},
		{1, p, 0}, {1, 2, 3}, {0, 0, 0, 1}, {0, p, 0, p + 1, 2 * p, -3 * p}, {1, 0, 0, 0, 0, p - 1},
		{math.MaxInt, math.MinInt, math.MaxInt - 1, math.MinInt + 1}, {math.MinInt}, {math.MaxInt, 0},
		{p * (math.MaxInt / p), 7, p * (math.MinInt / p)},
	}
}

// someList draws one of fewer than size numbers; half of them are no elements, and some are 0.
func someList(r *rand.Rand, p, size int) []int {
	out := make([]int, r.Intn(size))
	for i := range out {
		switch r.Intn(4) {
		case 0:
			out[i] = int(r.Uint64())
		case 1:
			out[i] = p * (r.Intn(5) - 2)
		default:
			out[i] = r.Intn(p)
		}
	}
	return out
}

// eachPair goes through the pairs of the edges, and through drawn ones.
func eachPair(t *testing.T, work func(f *field.Field, a, b []int)) {
	t.Helper()
	r := rand.New(rand.NewSource(2))
	for _, p := range primes {
		f := fieldOf(t, p)
		for _, a := range lists(p) {
			for _, b := range lists(p) {
				work(f, a, b)
			}
		}
		for range 150 {
			work(f, someList(r, p, 20), someList(r, p, 12))
		}
	}
}

func TestL1TrimAndDegree(t *testing.T) {
	eachPair(t, func(f *field.Field, a, _ []int) {
		want := wholeOf(a).elements(f.P())
		same(t, poly.Trim(f, a), want, "p = %d: Trim of %v", f.P(), a)
		if got := poly.Degree(f, a); got != len(want)-1 {
			t.Errorf("p = %d: Degree of %v: got %d, want %d", f.P(), a, got, len(want)-1)
		}
	})
}

// TestL1ZerosAtTheEnd: they make no difference to any answer, and no answer has any.
func TestL1ZerosAtTheEnd(t *testing.T) {
	eachPair(t, func(f *field.Field, a, b []int) {
		p := f.P()
		longA, longB := slices.Concat(a, []int{0, p, 0}), slices.Concat(b, []int{-p})
		got, want := allAnswers(f, longA, longB), allAnswers(f, a, b)
		for i := range want {
			same(t, got[i], want[i], "p = %d: answer %d of %v and %v, with zeros behind", p, i, a, b)
			same(t, want[i], wholeOf(want[i]).elements(p), "p = %d: answer %d of %v and %v, trimmed", p, i, a, b)
		}
	})
}

// allAnswers gives the polynomials that come of two.
func allAnswers(f *field.Field, a, b []int) [][]int {
	q, r, _ := poly.Divide(f, a, b)
	d, u, v := poly.Gcd(f, a, b)
	return [][]int{poly.Trim(f, a), poly.Add(f, a, b), poly.Sub(f, a, b), poly.Mul(f, a, b), poly.Derive(f, a), q, r, d, u, v}
}

func TestL2SumsAndProducts(t *testing.T) {
	eachPair(t, func(f *field.Field, a, b []int) {
		p, x, y := f.P(), wholeOf(a), wholeOf(b)
		same(t, poly.Add(f, a, b), x.plus(y, 1).elements(p), "p = %d: Add of %v and %v", p, a, b)
		same(t, poly.Sub(f, a, b), x.plus(y, -1).elements(p), "p = %d: Sub of %v and %v", p, a, b)
		same(t, poly.Mul(f, a, b), x.times(y).elements(p), "p = %d: Mul of %v and %v", p, a, b)
	})
}

func TestL2Divide(t *testing.T) {
	eachPair(t, func(f *field.Field, a, b []int) { checkDivide(t, f, a, b) })
}

func checkDivide(t *testing.T, f *field.Field, a, b []int) {
	t.Helper()
	p := f.P()
	divisor := wholeOf(b).elements(p)
	q, r, err := poly.Divide(f, a, b)
	if len(divisor) == 0 {
		if q != nil || r != nil || plain.Told(err) != api.ErrRange {
			t.Errorf("p = %d: Divide of %v by %v: got %v, %v, %v, want ErrRange", p, a, b, q, r, err)
		}
		return
	}
	if err != nil || len(r) >= len(divisor) {
		t.Errorf("p = %d: Divide of %v by %v: got %v, %v, %v, want less to be left", p, a, b, q, r, err)
	}
	back := wholeOf(q).times(wholeOf(b)).plus(wholeOf(r), 1).elements(p)
	same(t, back, wholeOf(a).elements(p), "p = %d: Divide of %v by %v: q b + r", p, a, b)
	same(t, q, wholeOf(q).elements(p), "p = %d: Divide of %v by %v: q, trimmed", p, a, b)
	same(t, r, wholeOf(r).elements(p), "p = %d: Divide of %v by %v: r, trimmed", p, a, b)
}

func TestL2DivideOfAProductLeavesNothing(t *testing.T) {
	eachPair(t, func(f *field.Field, a, b []int) {
		if poly.Degree(f, b) < 0 {
			return
		}
		q, r, err := poly.Divide(f, wholeOf(a).times(wholeOf(b)).elements(f.P()), b)
		if len(r) > 0 || err != nil {
			t.Errorf("p = %d: of %v times %v is left %v, %v", f.P(), a, b, r, err)
		}
		same(t, q, wholeOf(a).elements(f.P()), "p = %d: Divide of %v times %v", f.P(), a, b)
	})
}

func TestL2Eval(t *testing.T) {
	eachPair(t, func(f *field.Field, a, b []int) {
		p := f.P()
		for _, x := range append([]int{0, 1, p - 1, p, -1}, b...) {
			if got, want := poly.Eval(f, a, x), wholeOf(a).is(x, p); got != want {
				t.Errorf("p = %d: Eval of %v at %d: got %d, want %d", p, a, x, got, want)
			}
		}
	})
}

func TestL2Derive(t *testing.T) {
	eachPair(t, func(f *field.Field, a, _ []int) {
		var want whole
		for i, n := range wholeOf(a) {
			if i > 0 {
				want = append(want, n.Mul(n, big.NewInt(int64(i))))
			}
		}
		same(t, poly.Derive(f, a), want.elements(f.P()), "p = %d: Derive of %v", f.P(), a)
	})
	f := fieldOf(t, 3)
	same(t, poly.Derive(f, []int{2, 0, 0, 1, 0, 0, 1}), nil, "p = 3: places that p divides")
}

// polynomials gives all of a degree below size over a small field.
func polynomials(p, size int) [][]int {
	out := [][]int{{}}
	for range size {
		var longer [][]int
		for _, a := range out {
			for n := range p {
				longer = append(longer, append(slices.Clone(a), n))
			}
		}
		out = longer
	}
	for i, a := range out {
		out[i] = wholeOf(a).elements(p)
	}
	return out
}

// TestL3GreatestOfAll tries all that may divide both.
func TestL3GreatestOfAll(t *testing.T) {
	f := fieldOf(t, 3)
	all := polynomials(3, 4)
	for _, a := range all {
		for _, b := range all {
			d := checkGcd(t, f, a, b)
			if len(a) == 0 && len(b) == 0 {
				continue
			}
			for _, c := range all {
				if len(c) > len(d) && divides(t, f, c, a) && divides(t, f, c, b) {
					t.Fatalf("Gcd of %v and %v: got %v, and %v divides both", a, b, d, c)
				}
			}
		}
	}
}

func divides(t *testing.T, f *field.Field, d, a []int) bool {
	t.Helper()
	_, r, err := poly.Divide(f, a, d)
	if err != nil {
		t.Fatalf("p = %d: Divide of %v by %v: %v", f.P(), a, d, err)
	}
	return len(r) == 0
}

// checkGcd asks what is said of d, u and v; whatever divides both a and b then divides d, too.
func checkGcd(t *testing.T, f *field.Field, a, b []int) []int {
	t.Helper()
	p := f.P()
	d, u, v := poly.Gcd(f, a, b)
	if poly.Degree(f, a) < 0 && poly.Degree(f, b) < 0 {
		if len(d)+len(u)+len(v) > 0 {
			t.Errorf("p = %d: Gcd of %v and %v: got %v, %v, %v, want nothing", p, a, b, d, u, v)
		}
		return nil
	}
	if len(d) == 0 || d[len(d)-1] != 1 {
		t.Fatalf("p = %d: Gcd of %v and %v: got %v, whose last place is not 1", p, a, b, d)
	}
	if !divides(t, f, d, a) || !divides(t, f, d, b) {
		t.Errorf("p = %d: Gcd of %v and %v: got %v, which does not divide both", p, a, b, d)
	}
	made := wholeOf(u).times(wholeOf(a)).plus(wholeOf(v).times(wholeOf(b)), 1).elements(p)
	same(t, made, d, "p = %d: Gcd of %v and %v: u a + v b, of %v and %v", p, a, b, u, v)
	return d
}

func TestL3GcdOfManyPairs(t *testing.T) {
	eachPair(t, func(f *field.Field, a, b []int) {
		checkGcd(t, f, a, b)
		common := []int{3, 0, 7, 1}
		d := checkGcd(t, f, poly.Mul(f, a, common), poly.Mul(f, b, common))
		if len(d) > 0 && !divides(t, f, common, d) {
			t.Errorf("p = %d: Gcd of %v and %v, both times %v: got %v", f.P(), a, b, common, d)
		}
	})
}

func TestL3GcdWithZero(t *testing.T) {
	f := fieldOf(t, 17)
	for _, zero := range [][]int{nil, {0}, {17, 0, -34}} {
		same(t, checkGcd(t, f, []int{4, 2}, zero), []int{2, 1}, "Gcd of 4 2 and %v", zero)
		same(t, checkGcd(t, f, zero, []int{4, 2}), []int{2, 1}, "Gcd of %v and 4 2", zero)
		same(t, checkGcd(t, f, zero, zero), nil, "Gcd of %v twice", zero)
	}
}

// unlikeOnes draws size elements that are unlike, as numbers that need not be elements.
func unlikeOnes(r *rand.Rand, p, size int) []int {
	var out, elements []int
	for len(out) < min(size, p) {
		x := r.Intn(p)
		if !slices.Contains(elements, x) {
			elements = append(elements, x)
			out = append(out, x+p*(r.Intn(7)-3))
		}
	}
	return out
}

func TestL4FitGoesThroughThePoints(t *testing.T) {
	r := rand.New(rand.NewSource(4))
	for _, p := range primes {
		f := fieldOf(t, p)
		for size := range 18 {
			xs := unlikeOnes(r, p, size)
			ys := make([]int, len(xs))
			for i := range ys {
				ys[i] = int(r.Uint64())
			}
			a, err := poly.Fit(f, xs, ys)
			if err != nil || len(a) > len(xs) {
				t.Fatalf("p = %d: Fit of %v to %v: got %v, %v", p, xs, ys, a, err)
			}
			same(t, a, wholeOf(a).elements(p), "p = %d: Fit of %v to %v, trimmed", p, xs, ys)
			for i, x := range xs {
				if got, want := wholeOf(a).is(x, p), f.Of(ys[i]); got != want {
					t.Errorf("p = %d: Fit of %v to %v is %d at %d, want %d", p, xs, ys, got, x, want)
				}
			}
		}
	}
}

// TestL4FitFindsItAgain: of all that has these values, it is the one of so low a degree, be that far below.
func TestL4FitFindsItAgain(t *testing.T) {
	f := fieldOf(t, 5)
	xs := []int{4, -5, 2, 11}
	for _, a := range polynomials(5, 4) {
		ys := make([]int, len(xs))
		for i, x := range xs {
			ys[i] = wholeOf(a).is(x, 5) - 5*i
		}
		got, err := poly.Fit(f, xs, ys)
		if err != nil {
			t.Errorf("Fit of %v to %v: %v", xs, ys, err)
		}
		same(t, got, a, "Fit of %v to %v", xs, ys)
	}
}

func TestL4FitRefuses(t *testing.T) {
	f := fieldOf(t, 17)
	cases := []struct {
		xs, ys []int
		want   api.Errno
	}{
		{nil, nil, api.OK},
		{nil, []int{1}, api.ErrSize},
		{[]int{1}, nil, api.ErrSize},
		{[]int{1, 1}, []int{2}, api.ErrSize}, // both are wrong: that named first
		{[]int{1, 18}, []int{2, 2, 2}, api.ErrSize},
		{[]int{1, 1}, []int{2, 2}, api.ErrSame},
		{[]int{1, 18}, []int{2, 3}, api.ErrSame},
		{[]int{0, 3, -17}, []int{0, 0, 0}, api.ErrSame},
		{[]int{math.MinInt, 5, math.MinInt + 17}, []int{0, 0, 0}, api.ErrSame},
		{make([]int, 18), make([]int, 18), api.ErrSame},
		{[]int{16, 15, 14, 13, 12, 11, 10, 9, 8, 7, 6, 5, 4, 3, 2, 1, 0}, make([]int, 17), api.OK},
		{[]int{16, 15, 14, 13, 12, 11, 10, 9, 8, 7, 6, 5, 4, 3, 2, 1, 0, 17}, make([]int, 18), api.ErrSame},
	}
	for _, c := range cases {
		got, err := poly.Fit(f, c.xs, c.ys)
		if plain.Told(err) != c.want || len(got) > 0 || err != nil && got != nil {
			t.Errorf("Fit of %v to %v: got %v, %v, want %v", c.xs, c.ys, got, err, c.want)
		}
	}
}

func TestL4Vanish(t *testing.T) {
	eachPair(t, func(f *field.Field, a, _ []int) {
		want := whole{big.NewInt(1)}
		for _, x := range a {
			want = want.times(whole{new(big.Int).Neg(big.NewInt(int64(x))), big.NewInt(1)})
		}
		same(t, poly.Vanish(f, a), want.elements(f.P()), "p = %d: Vanish of %v", f.P(), a)
	})
}

// TestL5ZerosAreFew counts them, of all of a degree below 5; as many as the degree are come to.
func TestL5ZerosAreFew(t *testing.T) {
	for _, p := range []int{3, 5} {
		f := fieldOf(t, p)
		for _, a := range polynomials(p, 5) {
			zeros := 0
			for x := range p {
				if poly.Eval(f, a, x) == 0 {
					zeros++
				}
			}
			if len(a) > 0 && zeros > poly.Degree(f, a) || len(a) == 0 && zeros != p {
				t.Errorf("p = %d: %v is 0 at %d elements", p, a, zeros)
			}
		}
		xs := []int{0, 1, 2}
		for n := range len(xs) + 1 {
			if got := poly.Degree(f, poly.Vanish(f, xs[:n])); got != n {
				t.Errorf("p = %d: what is 0 at %d elements has the degree %d", p, n, got)
			}
		}
	}
}

// TestL1ListsAreLeftAlone: no call writes into a list or behind it, or reads what stands behind it, and
// what comes out shares no memory (P2, P6).
func TestL1ListsAreLeftAlone(t *testing.T) {
	f := fieldOf(t, 17)
	for _, pair := range [][2][]int{{{16, 0, 1}, {1, 2}}, {{5}, {1, 2, 3}}, {{3, 4}, nil}, {nil, {3, 4}}, {{1, 2, 0}, {17}}, {{1, 2}, {1, 2}}} {
		want := everyCall(f, slices.Clone(pair[0]), slices.Clone(pair[1]))
		memory := slices.Concat(pair[0], pair[1], []int{7, 8, 9})
		kept := slices.Clone(memory)
		n := len(pair[0])
		got := everyCall(f, memory[:n], memory[n:n+len(pair[1])])
		for i, l := range got {
			same(t, l, want[i], "answer %d of %v", i, pair)
		}
		for i, l := range got {
			for j := range l[:cap(l)] {
				l[:cap(l)][j] = 100 + i
			}
		}
		same(t, memory, kept, "what was handed in: %v", pair)
		for i, l := range got {
			for _, n := range l {
				if n != 100+i {
					t.Errorf("answer %d of %v shares memory with answer %d", i, pair, n-100)
				}
			}
		}
	}
}

func everyCall(f *field.Field, a, b []int) [][]int {
	fit, _ := poly.Fit(f, b, b)
	return append(allAnswers(f, a, b), fit, poly.Vanish(f, a), []int{poly.Eval(f, a, 3), poly.Degree(f, a)})
}

func TestTableOfTheDocument(t *testing.T) {
	f := fieldOf(t, 17)
	q, r, err := poly.Divide(f, []int{1, 0, 1}, []int{1, 2})
	if err != nil {
		t.Error(err)
	}
	d, _, _ := poly.Gcd(f, []int{16, 0, 1}, []int{1, 2, 1})
	fit, err := poly.Fit(f, []int{0, 1, 2}, []int{1, 3, 7})
	if err != nil {
		t.Error(err)
	}
	same(t, poly.Trim(f, []int{1, 17, 0}), []int{1}, "Trim")
	same(t, poly.Mul(f, []int{1, 1}, []int{16, 1}), []int{16, 0, 1}, "Mul")
	same(t, q, []int{4, 9}, "Divide, q")
	same(t, r, []int{14}, "Divide, r")
	same(t, poly.Derive(f, []int{5, 1, 1}), []int{1, 2}, "Derive")
	same(t, d, []int{1, 1}, "Gcd")
	same(t, fit, []int{1, 1, 1}, "Fit")
	same(t, poly.Vanish(f, []int{1, 2}), []int{2, 14, 1}, "Vanish")
	if n, is := poly.Degree(f, []int{0, 0}), poly.Eval(f, []int{1, 2, 3}, 2); n != -1 || is != 0 {
		t.Errorf("Degree %d, want -1; Eval %d, want 0", n, is)
	}
}
