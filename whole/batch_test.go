package whole_test

import (
	"math/rand"
	"slices"
	"testing"

	"attest/api"
	"attest/code"
	"attest/domain"
	"attest/plain"
	"attest/whole"
)

// batchedBy is Batch, by the words of W4.
func batchedBy(d *domain.Domain, first []int, words [][]int, g int) []int {
	s, n := sums{d.Field().P()}, d.Size()/8
	var out []int
	for i := range d.Size() {
		is := s.of(first[i])
		for j, word := range words {
			is = s.plus(is, s.times(s.power(g, 2*j+1), word[i]))
			is = s.plus(is, s.times(s.times(s.power(g, 2*j+2), s.power(d.Point(i), 3*n)), word[i]))
		}
		out = append(out, is)
	}
	return out
}

func batched(t *testing.T, d *domain.Domain, first []int, words [][]int, g int) []int {
	t.Helper()
	word, err := whole.Batch(d, first, words, g)
	if err != nil || len(word) != d.Size() {
		t.Fatalf("Batch over %d points: %d elements, error %v", d.Size(), len(word), err)
	}
	return word
}

func TestW4AnyWords(t *testing.T) {
	r := rand.New(rand.NewSource(414))
	for _, k := range [][3]int{{17, 8, 1}, {17, 16, 3}, {97, 8, 5}, {97, 16, 5}, {97, 32, 96}, {257, 256, 3}, {12289, 64, 11}, {great, 8, 31}, {great, 128, -1}} {
		d := domainOf(t, k[0], k[1], k[2])
		for m := range 7 {
			words := make([][]int, m)
			for j := range words {
				words[j] = numbers(r, d.Size())
			}
			first, g := numbers(r, d.Size()), anyNumber(r)
			got := batched(t, d, first, words, g)
			same(t, got, batchedBy(d, first, words, g), "Batch over %v of %v and %v with %d", k, first, words, g)
		}
	}
	d := domainOf(t, 97, 8, 5)
	same(t, batched(t, d, upTo(8), nil, 7), upTo(8), "Batch of no words")
	same(t, batched(t, d, upTo(8), [][]int{}, 7), upTo(8), "Batch of an empty list of words")
	same(t, batched(t, d, upTo(8), [][]int{upTo(8), upTo(8)}, 0), upTo(8), "Batch with 0")
	same(t, batched(t, d, upTo(8), [][]int{upTo(8), upTo(8)}, -97), upTo(8), "Batch with -97")
}

func TestW4Sizes(t *testing.T) {
	wrong := func(d *domain.Domain, first []int, words [][]int, what string) {
		t.Helper()
		word, err := whole.Batch(d, first, words, 3)
		same(t, []any{plain.Told(err), len(word)}, []any{api.ErrSize, 0}, "Batch of %s", what)
	}
	for _, size := range []int{1, 2, 4} {
		d := domainOf(t, 97, size, 5)
		wrong(d, upTo(size), nil, "a domain that is too small")
		wrong(d, upTo(size), [][]int{upTo(size)}, "a domain that is too small, and words")
		wrong(d, nil, nil, "a domain that is too small, and nothing")
	}
	for _, size := range []int{8, 16, 32} {
		d, right := domainOf(t, 97, size, 5), upTo(size)
		for _, long := range []int{0, 1, size / 2, size - 1, size + 1, 2 * size} {
			other := upTo(long)
			wrong(d, other, nil, "a first word that is too long or too short")
			wrong(d, other, [][]int{right}, "a first word that is too long or too short, and a right one")
			wrong(d, other, [][]int{other}, "words that are too long or too short")
			wrong(d, right, [][]int{other}, "a word that is too long or too short")
			wrong(d, right, [][]int{right, other}, "a last word that is too long or too short")
			wrong(d, right, [][]int{right, other, right}, "a word in between that is too long or too short")
		}
	}
}

// ofDegree gives the values of a polynomial of a degree.
func ofDegree(r *rand.Rand, d *domain.Domain, degree int) []int {
	a := make([]int, degree+1)
	for i := range a {
		a[i] = r.Intn(d.Field().P())
	}
	a[degree] = 1 + r.Intn(d.Field().P()-1)
	return d.Values(a)
}

func TestW4Degrees(t *testing.T) {
	r := rand.New(rand.NewSource(415))
	for _, k := range [][3]int{{17, 8, 3}, {97, 8, 5}, {97, 32, 5}, {257, 64, 3}, {great, 32, 31}} {
		d := domainOf(t, k[0], k[1], k[2])
		n := d.Size() / 8
		is := func(first []int, words [][]int) bool {
			return !slices.ContainsFunc(upTo(2*len(words)+1), func(g int) bool {
				return !code.Is(d, 4*n, batched(t, d, first, words, g))
			})
		}
		for m := range 5 {
			first := ofDegree(r, d, 4*n-1)
			words := make([][]int, m)
			for j := range words {
				words[j] = ofDegree(r, d, n-1)
			}
			same(t, is(first, words), true, "whether Batch of words of low degree is one, over %v", k)
			for _, degree := range []int{4 * n, 5 * n, 8*n - 1} {
				same(t, is(ofDegree(r, d, degree), words), false, "whether Batch is of low degree where first is of %d, over %v", degree, k)
			}
			for j := range words {
				for degree := n; degree < 8*n; degree += max(1, n/2) {
					other := slices.Clone(words)
					other[j] = ofDegree(r, d, degree)
					same(t, is(first, other), false, "whether Batch is of low degree where word %d is of %d, over %v", j, degree, k)
				}
			}
		}
	}
}
