package code_test

import (
	"fmt"
	"math"
	"math/rand"
	"slices"
	"testing"

	"attest/api"
	"attest/code"
	"attest/domain"
	"attest/field"
	"attest/plain"
	"attest/poly"
)

// shape of a domain, and that by which a failure is told.
type shape struct{ p, size, shift int }

// shapes: of one point, of all elements but 0, of few of many, shifted by what is no element, too.
var shapes = []shape{
	{3, 1, 2}, {3, 2, 1}, {5, 4, 2}, {13, 4, 1}, {17, 8, 1}, {17, 16, 3}, {97, 32, 44}, {97, 1, 5},
	{257, 64, -3}, {257, 256, 1}, {12289, 128, math.MaxInt}, {2013265921, 64, 31}, {2147483647, 2, math.MinInt},
}

func fieldOf(t *testing.T, p int) *field.Field {
	t.Helper()
	f, err := field.New(p)
	if err != nil || f == nil {
		t.Fatalf("field.New(%d): %v", p, err)
	}
	return f
}

func domainOf(t *testing.T, s shape) *domain.Domain {
	t.Helper()
	d, err := domain.New(fieldOf(t, s.p), s.size, s.shift)
	if err != nil || d == nil {
		t.Fatalf("domain.New of %v: %v", s, err)
	}
	return d
}

func same(t *testing.T, got, want []int, what string, args ...any) {
	t.Helper()
	if !slices.Equal(got, want) {
		t.Errorf("%s: got %v, want %v", fmt.Sprintf(what, args...), got, want)
	}
}

func element(n, p int) int { return (n%p + p) % p }

// valuesOf is worked out place by place, from elements; it leans on no package but for the points.
func valuesOf(a, points []int, p int) []int {
	out := make([]int, len(points))
	for i, x := range points {
		power := 1
		for _, n := range a {
			out[i] = (out[i] + element(n, p)*power) % p
			power = power * x % p
		}
	}
	return out
}

// trimmed gives a list of elements without the zeros at its end.
func trimmed(a []int) []int {
	for len(a) > 0 && a[len(a)-1] == 0 {
		a = a[:len(a)-1]
	}
	return a
}

// elements draws a list of a length; some are 0.
func elements(r *rand.Rand, p, length int) []int {
	out := make([]int, length)
	for i := range out {
		if r.Intn(5) > 0 {
			out[i] = r.Intn(p)
		}
	}
	return out
}

// disguised gives numbers that are taken for the same elements.
func disguised(r *rand.Rand, l []int, p int) []int {
	out := slices.Clone(l)
	for i := range out {
		if r.Intn(2) == 0 {
			out[i] += p * (r.Intn(1<<30) - 1<<29)
		}
	}
	return out
}

// bounds are such as may be for a size: the least, the greatest, and between.
func bounds(size int) []int {
	out := []int{1, 2, size / 4, size / 2, size - 1, size}
	out = slices.DeleteFunc(out, func(k int) bool { return k < 1 || k > size })
	slices.Sort(out)
	return slices.Compact(out)
}

// noBounds are such as may not be.
func noBounds(size int) []int {
	return []int{0, -1, size + 1, 2 * size, -size, math.MinInt, math.MaxInt}
}

// eachWord goes through all lists of elements of a length; the list is to be kept by nobody.
func eachWord(p, length int, work func(word []int)) {
	word := make([]int, length)
	for {
		work(word)
		place := 0
		for place < length && word[place] == p-1 {
			word[place] = 0
			place++
		}
		if place == length {
			return
		}
		word[place]++
	}
}

func TestC1EncodeGivesTheValues(t *testing.T) {
	r := rand.New(rand.NewSource(1))
	for _, s := range shapes {
		d := domainOf(t, s)
		for _, k := range bounds(s.size) {
			for _, length := range []int{0, 1, k - 1, k} {
				a := elements(r, s.p, min(length, k))
				got, err := code.Encode(d, k, disguised(r, a, s.p))
				if err != nil {
					t.Errorf("%v: Encode with %d of %v: %v", s, k, a, err)
				}
				same(t, got, valuesOf(a, d.Points(), s.p), "%v: Encode with %d of %v", s, k, a)
			}
		}
	}
}

func TestC1EncodeTakesZerosBehindForNothing(t *testing.T) {
	for _, s := range shapes {
		d := domainOf(t, s)
		long := make([]int, 3*s.size+2)
		long[0] = 2
		for i := range long[1:] {
			long[1+i] = s.p * (i%3 - 1)
		}
		got, err := code.Encode(d, 1, long)
		if err != nil {
			t.Errorf("%v: Encode with 1 of 2 and zeros: %v", s, err)
		}
		same(t, got, slices.Repeat([]int{2}, s.size), "%v: Encode with 1 of 2 and zeros", s)
	}
}

func TestC1EncodeAtTheEndsOfTheNumbers(t *testing.T) {
	d := domainOf(t, shape{97, 4, 5})
	a := []int{math.MinInt, math.MaxInt, math.MinInt + 1, math.MaxInt - 1}
	got, err := code.Encode(d, 4, a)
	if err != nil {
		t.Error(err)
	}
	same(t, got, valuesOf(a, d.Points(), 97), "Encode with 4 of %v", a)
}

func TestC1EncodeErrors(t *testing.T) {
	for _, s := range shapes {
		d := domainOf(t, s)
		refused := func(k int, a []int, want api.Errno) {
			t.Helper()
			got, err := code.Encode(d, k, a)
			if plain.Told(err) != want || len(got) != 0 {
				t.Errorf("%v: Encode with %d of %v: got %v and %v, want %v", s, k, a, got, err, want)
			}
		}
		high := make([]int, 2*s.size+3)
		high[2*s.size+2] = 1
		for _, k := range noBounds(s.size) {
			// The degree is too great for some of these, too: the bound is told first.
			for _, a := range [][]int{nil, {}, {0}, {1}, high} {
				refused(k, a, api.ErrRange)
			}
		}
		for _, k := range bounds(s.size) {
			justOver := make([]int, k+1)
			justOver[k] = s.p - 1
			refused(k, justOver, api.ErrSize)
			refused(k, append(justOver, s.p, 0), api.ErrSize)
			refused(k, high, api.ErrSize)
		}
	}
}

func TestC1IsOfAllWords(t *testing.T) {
	for _, s := range []shape{{3, 1, 2}, {3, 2, 1}, {3, 2, 2}, {5, 4, 2}, {7, 2, 3}, {17, 2, 3}, {13, 4, 5}} {
		d := domainOf(t, s)
		for k := range s.size + 1 {
			codewords := map[string]bool{}
			if k > 0 {
				eachWord(s.p, k, func(a []int) { codewords[fmt.Sprint(valuesOf(a, d.Points(), s.p))] = true })
			}
			eachWord(s.p, s.size, func(word []int) {
				if got, want := code.Is(d, k, word), codewords[fmt.Sprint(word)]; got != want {
					t.Errorf("%v: Is with %d of %v: got %v", s, k, word, got)
				}
			})
		}
	}
}

func TestC1IsOfGreatWords(t *testing.T) {
	r := rand.New(rand.NewSource(2))
	for _, s := range shapes {
		d := domainOf(t, s)
		for _, k := range bounds(s.size) {
			a := elements(r, s.p, k)
			a[k-1] = 1 + r.Intn(s.p-1)
			word := disguised(r, valuesOf(a, d.Points(), s.p), s.p)
			if !code.Is(d, k, word) {
				t.Errorf("%v: Is with %d, of the values of %v: false", s, k, a)
			}
			if code.Is(d, k-1, word) {
				t.Errorf("%v: Is with %d, of the values of %v: true", s, k-1, a)
			}
			// One place alone is spoilt: no other codeword is as near, but where each word is one.
			word[r.Intn(s.size)]++
			if got := code.Is(d, k, word); got != (k == s.size) {
				t.Errorf("%v: Is with %d of a spoilt word: %v", s, k, got)
			}
		}
	}
}

func TestC1IsNotOfWrongSizes(t *testing.T) {
	for _, s := range shapes {
		d := domainOf(t, s)
		for _, k := range noBounds(s.size) {
			if code.Is(d, k, make([]int, s.size)) {
				t.Errorf("%v: Is with %d of zeros: true", s, k)
			}
		}
		for _, length := range []int{0, s.size - 1, s.size + 1, 2 * s.size} {
			if length != s.size && code.Is(d, s.size, make([]int, length)) {
				t.Errorf("%v: Is of %d zeros: true", s, length)
			}
		}
		if code.Is(d, 1, nil) {
			t.Errorf("%v: Is of nil: true", s)
		}
	}
}

func TestC1Distance(t *testing.T) {
	f := fieldOf(t, 17)
	ends := []int{math.MinInt, math.MaxInt, math.MinInt + 1, math.MaxInt - 1}
	for _, c := range []struct {
		a, b []int
		want int
	}{
		{nil, nil, 0}, {nil, []int{}, 0}, {nil, []int{0}, 1}, {[]int{0, 0, 0}, nil, 3}, {[]int{5}, []int{5}, 0},
		{[]int{5}, []int{6}, 1}, {[]int{5, -1, 17}, []int{22, 16, 0}, 0}, {[]int{1, 2, 3}, []int{1, 2}, 1},
		{[]int{1, 2, 3}, []int{2, 1, 3}, 2}, {[]int{1, 0, 0}, []int{2}, 3}, {[]int{1, 2}, []int{3, 2, 0, 17, 1}, 4},
		{[]int{1, 2, 3}, []int{2, 3}, 3}, {ends, ends, 0},
		{ends, []int{element(ends[0], 17), element(ends[1], 17), element(ends[2], 17), element(ends[3], 17)}, 0},
		{ends, []int{element(ends[0], 17) + 1, 0, element(ends[2], 17), element(ends[3], 17) - 1}, 3},
	} {
		if got := code.Distance(f, c.a, c.b); got != c.want {
			t.Errorf("Distance of %v and %v: got %d, want %d", c.a, c.b, got, c.want)
		}
		if got := code.Distance(f, c.b, c.a); got != c.want {
			t.Errorf("Distance of %v and %v: got %d, want %d", c.b, c.a, got, c.want)
		}
	}
}

func TestC2AllUnlikePolynomials(t *testing.T) {
	for _, s := range []shape{{3, 2, 1}, {5, 4, 2}, {13, 4, 5}, {17, 8, 3}} {
		d := domainOf(t, s)
		for k := 1; k <= s.size && k <= 2; k++ {
			var codewords [][]int
			eachWord(s.p, k, func(a []int) {
				word, err := code.Encode(d, k, a)
				if err != nil {
					t.Fatal(err)
				}
				codewords = append(codewords, word)
			})
			for i, a := range codewords {
				for _, b := range codewords[:i] {
					if got := code.Distance(d.Field(), a, b); got < s.size-k+1 {
						t.Errorf("%v: with %d: %v and %v differ at %d places", s, k, a, b, got)
					}
				}
			}
		}
	}
}

// TestC2JustSoMany: no more than that is promised, for a polynomial is 0 at as many points as its degree.
func TestC2JustSoMany(t *testing.T) {
	r := rand.New(rand.NewSource(3))
	for _, s := range shapes {
		d := domainOf(t, s)
		for _, k := range bounds(s.size) {
			a := elements(r, s.p, k)
			b := poly.Add(d.Field(), a, poly.Vanish(d.Field(), d.Points()[:k-1]))
			x, errX := code.Encode(d, k, a)
			y, errY := code.Encode(d, k, b)
			if errX != nil || errY != nil {
				t.Fatalf("%v: Encode with %d: %v, %v", s, k, errX, errY)
			}
			if got := code.Distance(d.Field(), x, y); got != s.size-k+1 {
				t.Errorf("%v: with %d: the values of %v and %v differ at %d places, want %d", s, k, a, b, got, s.size-k+1)
			}
		}
	}
}

func TestTableOfTheDocument(t *testing.T) {
	d := domainOf(t, shape{17, 4, 3})
	word, err := code.Encode(d, 2, []int{1, 1})
	if err != nil {
		t.Error(err)
	}
	same(t, word, []int{4, 6, 15, 13}, "Encode with 2 of 1 1")
	if !code.Is(d, 2, []int{4, 6, 15, 13}) || code.Is(d, 1, []int{4, 6, 15, 13}) {
		t.Error("Is of 4 6 15 13: want true with 2, and false with 1")
	}
	decodes(t, d, 2, []int{4, 6, 0, 13}, nil, []int{1, 1}, []int{2})
	decodes(t, d, 2, []int{4, 6, 0, 13}, []int{2}, []int{1, 1}, nil)
	decodes(t, d, 1, []int{5, 5, 0, 5}, nil, []int{5}, []int{2})
}
