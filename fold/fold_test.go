package fold_test

import (
	"fmt"
	"math"
	"math/rand"
	"slices"
	"testing"

	"attest/api"
	"attest/code"
	"attest/domain"
	"attest/field"
	"attest/fold"
	"attest/plain"
)

// shape of a domain, and that by which a failure is told.
type shape struct{ p, size, shift int }

// shapes: of two points, of all elements but 0, of few of many, shifted by what is no element, too.
var shapes = []shape{
	{3, 2, 1}, {5, 4, 2}, {13, 4, 1}, {17, 8, 1}, {17, 16, 3}, {97, 32, 44}, {257, 64, -3}, {257, 256, 1},
	{12289, 128, math.MaxInt}, {2013265921, 64, 31}, {2147483647, 2, math.MinInt},
}

func domainOf(t *testing.T, s shape) *domain.Domain {
	t.Helper()
	f, err := field.New(s.p)
	if err != nil {
		t.Fatalf("field.New(%d): %v", s.p, err)
	}
	d, err := domain.New(f, s.size, s.shift)
	if err != nil {
		t.Fatalf("domain.New of %v: %v", s, err)
	}
	return d
}

func halfOf(t *testing.T, d *domain.Domain) *domain.Domain {
	t.Helper()
	half, err := d.Half()
	if err != nil {
		t.Fatalf("Half of %d points: %v", d.Size(), err)
	}
	return half
}

func eachDomain(t *testing.T, work func(s shape, d *domain.Domain)) {
	t.Helper()
	for _, s := range shapes {
		work(s, domainOf(t, s))
	}
}

func same(t *testing.T, got, want any, what string, args ...any) {
	t.Helper()
	if g, w := fmt.Sprint(got), fmt.Sprint(want); g != w {
		t.Errorf("%s: got %s, want %s", fmt.Sprintf(what, args...), g, w)
	}
}

func told(t *testing.T, err error, want api.Errno, what string, args ...any) {
	t.Helper()
	if plain.Told(err) != want {
		t.Errorf("%s: got the error %v, want %v", fmt.Sprintf(what, args...), err, want)
	}
}

// someNumber draws one that is most often an element.
func someNumber(r *rand.Rand, p int) int {
	switch r.Intn(6) {
	case 0:
		return int(r.Uint64())
	case 1:
		return p * (r.Intn(5) - 2)
	case 2:
		return []int{0, 1, -1, math.MinInt, math.MaxInt}[r.Intn(5)]
	}
	return r.Intn(p)
}

func someList(r *rand.Rand, p, n int) []int {
	out := make([]int, n)
	for i := range out {
		out[i] = someNumber(r, p)
	}
	return out
}

func element(n, p int) int { return (n%p + p) % p }

func elements(l []int, p int) []int {
	out := make([]int, len(l))
	for i, n := range l {
		out[i] = element(n, p)
	}
	return out
}

func times(a, b, p int) int { return element(a, p) * element(b, p) % p }

func power(a, n, p int) int {
	out := 1
	for ; n > 0; n /= 2 {
		if n%2 == 1 {
			out = times(out, a, p)
		}
		a = times(a, a, p)
	}
	return out
}

func over(a, b, p int) int { return times(a, power(b, p-2, p), p) }

func evalBy(p int, a []int, x int) int {
	out := 0
	for _, n := range slices.Backward(a) {
		out = element(times(out, x, p)+element(n, p), p)
	}
	return out
}

// pairBy is what O1 makes of what stands at x and at Neg(x).
func pairBy(p, x, a, b, r int) int {
	a, b = element(a, p), element(b, p)
	return element(over(a+b, 2, p)+over(times(r, a-b, p), 2*x, p), p)
}

// foldBy works Fold out as O1 says it.
func foldBy(p int, d *domain.Domain, word []int, r int) (out []int) {
	n := len(word)
	for i, x := range d.Points()[:n/2] {
		out = append(out, pairBy(p, x, word[i], word[i+n/2], r))
	}
	return out
}

func foldOf(t *testing.T, d *domain.Domain, word []int, r int) []int {
	t.Helper()
	out, err := fold.Fold(d, word, r)
	told(t, err, api.OK, "Fold of %d", len(word))
	return out
}

func TestO1FoldByHand(t *testing.T) {
	d := domainOf(t, shape{17, 4, 3}) // the points 3 5 14 12
	// (1 + 3) / 2 + r (1 - 3) / 6 and (2 + 4) / 2 + r (2 - 4) / 10, where 1/6 is 3 and 1/10 is 12
	same(t, foldOf(t, d, []int{1, 2, 3, 4}, 0), []int{2, 3}, "Fold by 0")
	same(t, foldOf(t, d, []int{1, 2, 3, 4}, 1), []int{13, 13}, "Fold by 1")
	same(t, foldOf(t, d, []int{18, -15, 20, 4 - 34}, -16), []int{13, 13}, "Fold of other numbers for the same elements")
	same(t, foldOf(t, d, []int{4, 6, 15, 13}, 5), []int{6, 6}, "Fold of 1 + x by 5")
}

func TestO1FoldIsAsItIsSaid(t *testing.T) {
	r := rand.New(rand.NewSource(1))
	eachDomain(t, func(s shape, d *domain.Domain) {
		for range 30 {
			word, by := someList(r, s.p, s.size), someNumber(r, s.p)
			same(t, foldOf(t, d, word, by), foldBy(s.p, d, word, by), "%v: Fold of %v by %d", s, word, by)
		}
	})
}

// TestO1FoldDownToOne: each domain is the Half of the one ahead.
func TestO1FoldDownToOne(t *testing.T) {
	r := rand.New(rand.NewSource(2))
	eachDomain(t, func(s shape, d *domain.Domain) {
		word := someList(r, s.p, s.size)
		for d.Size() > 1 {
			by := someNumber(r, s.p)
			want := foldBy(s.p, d, word, by)
			word = foldOf(t, d, word, by)
			same(t, word, want, "%v: Fold over %d points", s, d.Size())
			d = halfOf(t, d)
		}
		same(t, len(word), 1, "%v: how many are left", s)
	})
}

func TestO1WrongSizes(t *testing.T) {
	refused := func(d *domain.Domain, n int) {
		t.Helper()
		out, err := fold.Fold(d, make([]int, n), 1)
		told(t, err, api.ErrSize, "Fold of %d over %d points", n, d.Size())
		if len(out) != 0 {
			t.Errorf("Fold of %d over %d points: got %v with an error", n, d.Size(), out)
		}
	}
	eachDomain(t, func(s shape, d *domain.Domain) {
		for _, n := range []int{0, 1, s.size / 2, s.size - 1, s.size + 1, 2 * s.size} {
			if n != s.size {
				refused(d, n)
			}
		}
	})
	for _, s := range []shape{{3, 1, 2}, {97, 1, 5}, {2147483647, 1, 1}} { // one point
		for n := range 4 {
			refused(domainOf(t, s), n)
		}
	}
}

// woven gives e(x^2) + x o(x^2), both of one length.
func woven(e, o []int) (out []int) {
	for i := range e {
		out = append(out, e[i], o[i])
	}
	return out
}

func TestO2FoldOfValues(t *testing.T) {
	r := rand.New(rand.NewSource(3))
	eachDomain(t, func(s shape, d *domain.Domain) {
		for _, n := range []int{0, 1, 2, s.size / 4, s.size / 2, s.size, s.size + 3} { // of any degree
			e, o, by := someList(r, s.p, n), someList(r, s.p, n), someNumber(r, s.p)
			mixed := make([]int, n)
			for i := range mixed {
				mixed[i] = element(element(e[i], s.p)+times(by, o[i], s.p), s.p)
			}
			got := foldOf(t, d, d.Values(woven(e, o)), by)
			same(t, got, halfOf(t, d).Values(mixed), "%v: Fold by %d of values of e = %v, o = %v", s, by, e, o)
		}
	})
}

func TestO2CodewordsStaySo(t *testing.T) {
	r := rand.New(rand.NewSource(4))
	eachDomain(t, func(s shape, d *domain.Domain) {
		for k := 2; k <= s.size; k += 2 {
			word := d.Values(someList(r, s.p, k))
			by := someNumber(r, s.p)
			if !code.Is(halfOf(t, d), k/2, foldOf(t, d, word, by)) {
				t.Errorf("%v: Fold by %d of a codeword below %d is none below %d", s, by, k, k/2)
			}
		}
	})
}

// unfolded gives a word over d that by becomes the given one, with any differences of what stands at x and at Neg(x).
func unfolded(r *rand.Rand, p int, d *domain.Domain, folded []int, by int) []int {
	half := len(folded)
	out := make([]int, 2*half)
	for i, x := range d.Points()[:half] {
		odd := r.Intn(p)
		even := element(folded[i]-times(by, odd, p), p)
		out[i], out[i+half] = element(even+times(x, odd, p), p), element(even-times(x, odd, p), p)
	}
	return out
}

// TestO2NoCodewordBecomesOneByTwo: of a word that is none, one r alone can make a codeword.
func TestO2NoCodewordBecomesOneByTwo(t *testing.T) {
	r := rand.New(rand.NewSource(5))
	for _, s := range []shape{{5, 4, 2}, {13, 4, 1}, {17, 8, 1}, {17, 16, 3}, {97, 32, 44}} {
		d := domainOf(t, s)
		half, hit := halfOf(t, d), 0
		for k := 2; k < s.size; k += 2 {
			for range 8 {
				by := r.Intn(s.p)
				word := unfolded(r, s.p, d, half.Values(someList(r, s.p, k/2)), by)
				count := 0
				for at := range s.p {
					if code.Is(half, k/2, foldOf(t, d, word, at)) {
						count++
					}
				}
				if code.Is(d, k, word) {
					same(t, count, s.p, "%v: elements that make a codeword below %d of one", s, k)
					continue
				}
				same(t, count, 1, "%v: elements that make a codeword below %d of none", s, k)
				hit++
			}
		}
		if hit == 0 {
			t.Errorf("%v: all words were codewords", s)
		}
	}
}

// nearest tells at how few places a word differs from a codeword, gone through one by one.
func nearest(d *domain.Domain, k int, word []int) int {
	p := d.Field().P()
	best, count := len(word), int(math.Pow(float64(p), float64(k)))
	for n := range count {
		var a []int
		for range k {
			a = append(a, n%p)
			n /= p
		}
		best = min(best, code.Distance(d.Field(), d.Values(a), word))
	}
	return best
}

func TestO2WhatComesNearIsNear(t *testing.T) {
	r := rand.New(rand.NewSource(6))
	for _, s := range []shape{{5, 4, 2}, {13, 4, 1}, {17, 8, 3}, {17, 16, 1}} {
		d := domainOf(t, s)
		half := halfOf(t, d)
		for i := range 6 {
			word := d.Values(someList(r, s.p, 2))
			if i == 0 {
				word = someList(r, s.p, s.size)
			}
			for range i {
				word[r.Intn(s.size)] = r.Intn(s.p)
			}
			far := nearest(d, 2, word)
			var fars []int
			for by := range s.p {
				fars = append(fars, nearest(half, 1, foldOf(t, d, word, by)))
			}
			slices.Sort(fars)
			if far > 2*(fars[0]+fars[1]) {
				t.Errorf("%v: a word is %d off, but comes to words %d and %d off", s, far, fars[0], fars[1])
			}
		}
	}
}

// TestP2FoldLeavesTheWordAlone: it is neither written nor kept, nor is what stands behind it.
func TestP2FoldLeavesTheWordAlone(t *testing.T) {
	d := domainOf(t, shape{17, 4, 3})
	memory := []int{18, -15, 20, 4, 9, 9, 9, 9}
	out := foldOf(t, d, memory[:4], 1)
	same(t, out, []int{13, 13}, "Fold")
	same(t, memory, []int{18, -15, 20, 4, 9, 9, 9, 9}, "the memory of the word")
	out[0], out[1] = 5, 5
	_ = append(out, 5)
	same(t, memory, []int{18, -15, 20, 4, 9, 9, 9, 9}, "the memory of the word, the answer being written into")
	same(t, foldOf(t, d, memory[:4], 1), []int{13, 13}, "Fold again")
}
