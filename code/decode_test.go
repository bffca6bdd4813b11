package code_test

import (
	"math"
	"math/rand"
	"slices"
	"testing"

	"attest/code"
	"attest/domain"
	"attest/poly"
)

func decodes(t *testing.T, d *domain.Domain, k int, word, gone, a, wrong []int) {
	t.Helper()
	gotA, gotWrong, ok := code.Decode(d, k, word, gone)
	if !ok || !slices.Equal(gotA, a) || !slices.Equal(gotWrong, wrong) {
		t.Errorf("p = %d, %d points from %d on: Decode with %d of %v, gone %v: got %v, %v and %v, want %v, %v and true",
			d.P(), d.Size(), d.Point(0), k, brief(word), brief(gone), brief(gotA), brief(gotWrong), ok, brief(a), brief(wrong))
	}
}

func decodesNot(t *testing.T, d *domain.Domain, k int, word, gone []int) {
	t.Helper()
	a, wrong, ok := code.Decode(d, k, word, gone)
	if ok || len(a) != 0 || len(wrong) != 0 {
		t.Errorf("p = %d, %d points from %d on: Decode with %d of %v, gone %v: got %v, %v and %v, want nothing and false",
			d.P(), d.Size(), d.Point(0), k, brief(word), brief(gone), brief(a), brief(wrong), ok)
	}
}

// brief keeps what a failure tells to some lines.
func brief(l []int) []int { return l[:min(len(l), 64)] }

// found is what Decode has to answer.
type found struct {
	a, wrong []int
	ok       bool
}

// search goes through all polynomials of a degree below k, and takes that which C3 asks for.
func search(t *testing.T, d *domain.Domain, k int, word, gone []int) (out found) {
	t.Helper()
	if k < 1 || k > d.Size() {
		return found{}
	}
	lost := map[int]bool{}
	for _, place := range gone {
		if place >= 0 && place < d.Size() {
			lost[place] = true
		}
	}
	points := d.Points()
	eachWord(d.P(), k, func(a []int) {
		var wrong []int
		for place, value := range valuesOf(a, points, d.P()) {
			if !lost[place] && value != element(word[place], d.P()) {
				wrong = append(wrong, place)
			}
		}
		if 2*len(wrong)+len(lost) <= d.Size()-k {
			if out.ok {
				t.Errorf("two polynomials for %v, gone %v", word, gone)
			}
			out = found{trimmed(slices.Clone(a)), wrong, true}
		}
	})
	return out
}

func decodesAsSearched(t *testing.T, d *domain.Domain, k int, word, gone []int) {
	t.Helper()
	want := search(t, d, k, word, gone)
	if want.ok {
		decodes(t, d, k, word, gone, want.a, want.wrong)
	} else {
		decodesNot(t, d, k, word, gone)
	}
}

// subset gives the places whose bits are set.
func subset(bits, size int) (out []int) {
	for place := range size {
		if bits>>place&1 == 1 {
			out = append(out, place)
		}
	}
	return out
}

func TestC3AllWordsWithAllGone(t *testing.T) {
	for _, s := range []shape{{3, 1, 2}, {3, 2, 1}, {3, 2, 2}, {5, 4, 2}, {7, 2, 4}, {5, 2, 3}} {
		d := domainOf(t, s)
		for k := -1; k <= s.size+1; k++ {
			for bits := range 1 << s.size {
				gone := subset(bits, s.size)
				eachWord(s.p, s.size, func(word []int) { decodesAsSearched(t, d, k, word, gone) })
			}
		}
	}
}

func TestC3SomeWordsWithSomeGone(t *testing.T) {
	r := rand.New(rand.NewSource(4))
	for _, s := range []shape{{13, 4, 5}, {17, 8, 1}, {17, 8, 3}, {17, 16, -2}, {97, 16, 5}, {41, 8, 7}} {
		d := domainOf(t, s)
		for k := 1; k <= 2; k++ {
			for range 60 {
				word := elements(r, s.p, s.size)
				gone := r.Perm(s.size)[:r.Intn(s.size/2)]
				decodesAsSearched(t, d, k, disguised(r, word, s.p), gone)
				near := spoilt(r, valuesOf(elements(r, s.p, k), d.Points(), s.p), r.Perm(s.size)[:r.Intn(s.size)], s.p)
				decodesAsSearched(t, d, k, disguised(r, near, s.p), gone)
			}
		}
	}
}

// spoilt gives a word that is another element at each of some places.
func spoilt(r *rand.Rand, word, places []int, p int) []int {
	out := slices.Clone(word)
	for _, place := range places {
		out[place] = (out[place] + 1 + r.Intn(p-1)) % p
	}
	return out
}

// TestC3MendsUpToTheBound: for each number of places gone, as many others are wrong as may be, or fewer.
func TestC3MendsUpToTheBound(t *testing.T) {
	r := rand.New(rand.NewSource(5))
	for _, s := range shapes {
		d := domainOf(t, s)
		for _, k := range bounds(s.size) {
			spare := s.size - k
			for _, count := range []int{0, 1, 2, spare / 3, spare / 2, spare - 1, spare} {
				if count < 0 || count > spare {
					continue
				}
				most := (spare - count) / 2
				for _, e := range []int{0, min(1, most), most / 2, most} {
					a := elements(r, s.p, k)
					places := r.Perm(s.size)
					gone, wrong := places[:count], slices.Sorted(slices.Values(places[count:count+e]))
					word := spoilt(r, valuesOf(a, d.Points(), s.p), places[:count+e], s.p)
					decodes(t, d, k, disguised(r, word, s.p), gone, trimmed(a), wrong)
				}
			}
		}
	}
}

// TestC3BetweenTwoCodewords: a word that is as far from two codewords as half of what they differ by,
// one place more than may be wrong, is near to no third one.
func TestC3BetweenTwoCodewords(t *testing.T) {
	r := rand.New(rand.NewSource(6))
	for _, s := range shapes {
		d := domainOf(t, s)
		for k := 1; k <= min(s.size, 40); k++ {
			places := r.Perm(s.size)
			var common []int
			for _, place := range places[:k-1] {
				common = append(common, d.Point(place))
			}
			a := elements(r, s.p, k)
			b := poly.Add(d.Field(), a, poly.Vanish(d.Field(), common))
			word, other := valuesOf(a, d.Points(), s.p), valuesOf(b, d.Points(), s.p)
			differ := places[k-1:]
			gone := differ[:len(differ)%2]
			differ = differ[len(gone):]
			half := len(differ) / 2
			if half == 0 {
				continue
			}
			for _, place := range differ[:half] {
				word[place] = other[place]
			}
			decodesNot(t, d, k, word, gone)
			// With one place of the other one given back it is near enough.
			word[differ[0]] = valuesOf(a, d.Points(), s.p)[differ[0]]
			decodes(t, d, k, word, gone, trimmed(a), slices.Sorted(slices.Values(differ[1:half])))
		}
	}
}

// TestC3FarWords: whatever is answered of a word that is spoilt at more places than may be keeps to C3.
func TestC3FarWords(t *testing.T) {
	r := rand.New(rand.NewSource(7))
	for _, s := range shapes {
		d := domainOf(t, s)
		for _, k := range bounds(s.size) {
			for range 20 {
				word := elements(r, s.p, s.size)
				gone := r.Perm(s.size)[:r.Intn(s.size)]
				a, wrong, ok := code.Decode(d, k, word, gone)
				if !ok {
					if len(a) != 0 || len(wrong) != 0 {
						t.Errorf("%v: Decode with %d: %v, %v and false", s, k, a, wrong)
					}
					continue
				}
				var want []int
				for place, value := range valuesOf(a, d.Points(), s.p) {
					if value != word[place] && !slices.Contains(gone, place) {
						want = append(want, place)
					}
				}
				same(t, wrong, want, "%v: Decode with %d of %v, gone %v: wrong", s, k, word, gone)
				if len(a) > k || 2*len(want)+len(gone) > s.size-k {
					t.Errorf("%v: Decode with %d of %v, gone %v: got %v, which is too far", s, k, word, gone, a)
				}
			}
		}
	}
}

func TestC3TooManyGone(t *testing.T) {
	r := rand.New(rand.NewSource(8))
	for _, s := range shapes {
		d := domainOf(t, s)
		for _, k := range bounds(s.size) {
			word := valuesOf(elements(r, s.p, k), d.Points(), s.p)
			decodesNot(t, d, k, word, r.Perm(s.size)[:s.size-k+1])
			decodesNot(t, d, k, word, r.Perm(s.size))
		}
	}
}

// TestC3PlacesGone: twice is once; what is no place is not taken for one, and counts nothing.
func TestC3PlacesGone(t *testing.T) {
	d := domainOf(t, shape{97, 8, 5})
	a := []int{3, 96, 7}
	word := valuesOf(a, d.Points(), 97)
	noPlaces := []int{-1, 8, 9, -8, 97, 16, 1 << 40, math.MinInt, math.MaxInt, -7, 1<<63 - 8}
	decodes(t, d, 3, word, noPlaces, a, nil)
	decodes(t, d, 8, word, noPlaces, a, nil)

	bad := slices.Clone(word)
	bad[0], bad[7] = math.MinInt, math.MaxInt
	decodes(t, d, 3, bad, noPlaces, a, []int{0, 7})
	bad[1], bad[2] = 0, 1<<62
	decodesNot(t, d, 3, bad, noPlaces)
	decodes(t, d, 3, bad, slices.Concat([]int{7, 0, 7, 1, 0, 7}, noPlaces, []int{0, 0, 2, 2, 1, 7}), a, nil)
	bad[5]++
	decodesNot(t, d, 3, bad, []int{0, 1, 2, 7})
	decodes(t, d, 3, bad, []int{5, 0, 1, 2, 7, 7, 7}, a, nil)
	// What is right and gone counts as gone all the same.
	decodesNot(t, d, 3, word, []int{0, 1, 2, 3, 4, 5})
	decodes(t, d, 3, word, []int{0, 1, 2, 3, 4, 4}, a, nil)
}

func TestC3ZeroIsEmpty(t *testing.T) {
	for _, s := range shapes {
		d := domainOf(t, s)
		for _, k := range bounds(s.size) {
			decodes(t, d, k, slices.Repeat([]int{-s.p}, s.size), nil, nil, nil)
		}
		if s.size >= 4 {
			word := make([]int, s.size)
			word[s.size-1] = 1
			decodes(t, d, 1, word, []int{}, nil, []int{s.size - 1})
		}
	}
}

func TestC3NothingOfWrongSizes(t *testing.T) {
	for _, s := range shapes {
		d := domainOf(t, s)
		for _, k := range noBounds(s.size) {
			decodesNot(t, d, k, make([]int, s.size), nil)
			decodesNot(t, d, k, make([]int, s.size), []int{0})
			decodesNot(t, d, k, nil, nil)
		}
		for _, length := range []int{0, s.size - 1, s.size + 1, 2 * s.size} {
			if length != s.size {
				decodesNot(t, d, 1, make([]int, length), nil)
				decodesNot(t, d, s.size, make([]int, length), []int{length - 1, s.size})
			}
		}
		decodesNot(t, d, 1, nil, nil)
	}
}

func TestC3TheGreatestDomain(t *testing.T) {
	r := rand.New(rand.NewSource(9))
	for _, s := range []shape{{65537, 65536, 3}, {2013265921, 65536, -1}} {
		d := domainOf(t, s)
		a := elements(r, s.p, s.size/2)
		a[0] = 1
		right, err := code.Encode(d, s.size/2, a)
		if err != nil {
			t.Fatal(err)
		}
		places := r.Perm(s.size)
		wrong := slices.Sorted(slices.Values(places[:20]))
		word := spoilt(r, right, places[:35], s.p)
		decodes(t, d, s.size/2, word, places[20:50], trimmed(a), wrong)
		if !code.Is(d, s.size/2, right) || code.Is(d, s.size/2, word) || code.Distance(d.Field(), right, word) != 35 {
			t.Errorf("%v: the codeword, or the one that is spoilt at 35 places, is not seen", s)
		}
		decodes(t, d, 1, slices.Repeat([]int{7}, s.size), nil, []int{7}, nil)
		decodesNot(t, d, s.size, right, []int{0})
	}
}

// TestC3ListsAreLeftAlone: what is handed in, and what stands behind it, is neither written nor read nor kept.
func TestC3ListsAreLeftAlone(t *testing.T) {
	d := domainOf(t, shape{17, 4, 3})
	memory := []int{21, -11, 0, 13, 99, 2, 2, 5, 0, 1, 18, -16, 8, 8}
	before := slices.Clone(memory)
	word, gone, a := memory[:4], memory[5:7], memory[10:12]
	gotA, wrong, ok := code.Decode(d, 2, word, gone)
	values, err := code.Encode(d, 2, a)
	if !ok || err != nil || code.Is(d, 2, word) || code.Distance(d.Field(), word, values) != 1 {
		t.Errorf("Decode: %v, Encode: %v", ok, err)
	}
	same(t, memory, before, "what was handed in")
	for i := range memory {
		memory[i] = 5
	}
	same(t, gotA, []int{1, 1}, "what was found")
	same(t, wrong, nil, "what was wrong")
	same(t, values, []int{4, 6, 15, 13}, "the codeword")
}

// TestC3AnswersAreTheCallers: whatever is done to one, and behind it, changes no other.
func TestC3AnswersAreTheCallers(t *testing.T) {
	d := domainOf(t, shape{17, 8, 3})
	answers := func() [][]int {
		values, _ := code.Encode(d, 2, []int{1, 1})
		word := slices.Clone(values)
		word[3]++
		a, wrong, _ := code.Decode(d, 2, word, []int{1, 0})
		return [][]int{values, a, wrong}
	}
	want := answers()
	for spoiltOne := range want {
		first, second := answers(), answers()
		l := first[spoiltOne][:cap(first[spoiltOne])]
		for i := range l {
			l[i] = -7
		}
		third := answers()
		for i := range want {
			if i != spoiltOne {
				same(t, first[i], want[i], "answer %d, beside it", i)
			}
			same(t, second[i], want[i], "answer %d, made ahead", i)
			same(t, third[i], want[i], "answer %d, made behind", i)
		}
	}
}
