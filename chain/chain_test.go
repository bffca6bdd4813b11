package chain_test

import (
	"fmt"
	"math"
	"math/big"
	"math/rand"
	"slices"
	"testing"

	"attest/api"
	"attest/chain"
	"attest/field"
	"attest/sponge"
)

// primes: the least that may be, some between, and the greatest.
var primes = []int{23, 29, 97, 193, 12289, 65537, 998244353, 2147483647}

func spongeOf(t *testing.T, p int) *sponge.Sponge {
	t.Helper()
	f, err := field.New(p)
	if err != nil || f == nil {
		t.Fatalf("field.New(%d): %v", p, err)
	}
	s, err := sponge.New(f)
	if err != nil || s == nil {
		t.Fatalf("sponge.New of p = %d: %v", p, err)
	}
	return s
}

func eachSponge(t *testing.T, work func(p int, s *sponge.Sponge)) {
	t.Helper()
	for _, p := range primes {
		work(p, spongeOf(t, p))
	}
}

func same(t *testing.T, got, want any, what string, args ...any) {
	t.Helper()
	if fmt.Sprint(got) != fmt.Sprint(want) {
		t.Errorf("%s: got %v, want %v", fmt.Sprintf(what, args...), got, want)
	}
}

// someList draws one of a length; half of its numbers are no elements.
func someList(r *rand.Rand, p, n int) []int {
	l := make([]int, n)
	for i := range l {
		l[i] = r.Intn(p)
		if r.Intn(2) == 0 {
			l[i] = int(r.Uint64())
		}
	}
	return l
}

// someLists draws lists of all short lengths, and those of the least and the greatest numbers.
func someLists(r *rand.Rand, p int) [][]int {
	out := [][]int{nil, {}, {0}, {p}, {-1}, {math.MinInt, math.MaxInt}, {2, 3, 4}}
	for n := range 14 {
		out = append(out, someList(r, p, n))
	}
	return out
}

// moved gives other numbers for the same elements.
func moved(r *rand.Rand, p int, l []int) []int {
	out := slices.Clone(l)
	for i, n := range out {
		if n > math.MinInt/2 && n < math.MaxInt/2 {
			out[i] = n + p*(r.Intn(9)-4)
		}
	}
	return out
}

// marked gives a mark and, behind it, the numbers.
func marked(mark int, l ...int) []int { return append([]int{mark}, l...) }

// placeBy reckons a place by big numbers.
func placeBy(p int, digest []int, n int) int {
	sum := new(big.Int).Mul(big.NewInt(int64(digest[0])), big.NewInt(int64(p)))
	sum.Add(sum, big.NewInt(int64(digest[1])))
	return int(sum.Mod(sum, big.NewInt(int64(n))).Int64())
}

func TestH1NewHashesTheLabel(t *testing.T) {
	r := rand.New(rand.NewSource(1))
	eachSponge(t, func(p int, s *sponge.Sponge) {
		for _, label := range someLists(r, p) {
			same(t, chain.New(s, label).Digest(), s.Hash(marked(2, label...)), "p = %d: Digest of New of %v", p, label)
		}
	})
}

func TestH1TakeHashesTheDigestAndTheList(t *testing.T) {
	r := rand.New(rand.NewSource(2))
	eachSponge(t, func(p int, s *sponge.Sponge) {
		c := chain.New(s, []int{p - 1})
		for _, l := range someLists(r, p) {
			want := s.Hash(append(marked(3, c.Digest()...), l...))
			c.Take(l)
			same(t, c.Digest(), want, "p = %d: Digest behind Take of %v", p, l)
		}
	})
}

func TestH1DrawHashesTheDigest(t *testing.T) {
	eachSponge(t, func(p int, s *sponge.Sponge) {
		c := chain.New(s, nil)
		for i := range 30 {
			want := s.Hash(marked(4, c.Digest()...))
			same(t, c.Draw(), want[0], "p = %d: number %d", p, i)
			same(t, c.Digest(), want, "p = %d: Digest behind number %d", p, i)
		}
	})
}

func TestH1DrawsIsDrawManyTimes(t *testing.T) {
	eachSponge(t, func(p int, s *sponge.Sponge) {
		c, one := chain.New(s, []int{7}), chain.New(s, []int{7})
		for _, n := range []int{1, 2, 3, 8, 50} {
			want := make([]int, n)
			for i := range want {
				want[i] = one.Draw()
			}
			same(t, c.Draws(n), want, "p = %d: Draws(%d)", p, n)
			same(t, c.Digest(), one.Digest(), "p = %d: Digest behind Draws(%d)", p, n)
		}
	})
}

func TestH1DrawsOfTheMostThatMayBe(t *testing.T) {
	c := chain.New(spongeOf(t, 97), nil)
	one := c.Fork()
	got := c.Draws(api.MaxSize)
	if len(got) != api.MaxSize {
		t.Fatalf("Draws(MaxSize) gives %d numbers", len(got))
	}
	for i, n := range got {
		if want := one.Draw(); n != want {
			t.Fatalf("number %d: got %d, want %d", i, n, want)
		}
	}
	same(t, c.Digest(), one.Digest(), "Digest behind Draws(MaxSize)")
}

func TestH1DrawsOfAWrongNumberDoesNothing(t *testing.T) {
	c := chain.New(spongeOf(t, 97), []int{1})
	before := c.Digest()
	for _, n := range []int{0, -1, -2, -api.MaxSize, api.MaxSize + 1, math.MinInt, math.MaxInt} {
		if got := c.Draws(n); len(got) != 0 {
			t.Errorf("Draws(%d) gives %d numbers", n, len(got))
		}
		same(t, c.Digest(), before, "Digest behind Draws(%d)", n)
	}
}

func TestH1PlaceIsOfTwoElements(t *testing.T) {
	eachSponge(t, func(p int, s *sponge.Sponge) {
		c := chain.New(s, []int{5})
		for _, n := range []int{1, 2, 3, 4, 7, 22, 23, 24, 64, 96, 97, 1000, 65535, api.MaxSize} {
			for range 8 {
				want := s.Hash(marked(4, c.Digest()...))
				same(t, c.Place(n), placeBy(p, want, n), "p = %d: Place(%d)", p, n)
				same(t, c.Digest(), want, "p = %d: Digest behind Place(%d)", p, n)
			}
		}
	})
}

func TestH1PlaceOfAWrongNumberDoesNothing(t *testing.T) {
	c := chain.New(spongeOf(t, 2147483647), []int{1})
	before := c.Digest()
	for _, n := range []int{0, -1, -2, -api.MaxSize, api.MaxSize + 1, math.MinInt, math.MaxInt} {
		same(t, c.Place(n), 0, "Place(%d)", n)
		same(t, c.Digest(), before, "Digest behind Place(%d)", n)
	}
}

// TestH1ElementsAreAsElements: which numbers stand for them makes no difference, and a 0 more does.
func TestH1ElementsAreAsElements(t *testing.T) {
	r := rand.New(rand.NewSource(3))
	eachSponge(t, func(p int, s *sponge.Sponge) {
		for _, l := range someLists(r, p) {
			c, other := chain.New(s, l), chain.New(s, moved(r, p, l))
			same(t, other.Digest(), c.Digest(), "p = %d: other numbers for the label %v", p, l)
			c.Take(l)
			other.Take(moved(r, p, l))
			same(t, other.Digest(), c.Digest(), "p = %d: other numbers for the list %v", p, l)
		}
	})
	s := spongeOf(t, 2147483647)
	if slices.Equal(chain.New(s, nil).Digest(), chain.New(s, []int{0}).Digest()) {
		t.Errorf("a label of a 0 is as none")
	}
}

// TestH1TakingNothingIsADoing: an empty list is taken in like any other.
func TestH1TakingNothingIsADoing(t *testing.T) {
	s := spongeOf(t, 12289)
	c, empty := chain.New(s, nil), chain.New(s, []int{})
	before := c.Digest()
	c.Take(nil)
	empty.Take([]int{})
	same(t, c.Digest(), empty.Digest(), "Digest behind Take of nil, and of an empty list")
	if slices.Equal(c.Digest(), before) {
		t.Errorf("Take of nil does nothing")
	}
}

// did does something to a chain, and tells what that answered.
func did(c *chain.Chain, what, n int) []int {
	switch what {
	case 0:
		c.Take([]int{n, n + 1})
		return nil
	case 1:
		return []int{c.Draw()}
	case 2:
		return c.Draws(n)
	}
	return []int{c.Place(n)}
}

func TestH2ForkHasTheSameDigest(t *testing.T) {
	eachSponge(t, func(p int, s *sponge.Sponge) {
		c := chain.New(s, []int{1, 2})
		for what := range 4 {
			did(c, what, 3)
			before := c.Digest()
			same(t, c.Fork().Digest(), before, "p = %d: Digest of Fork", p)
			same(t, c.Digest(), before, "p = %d: Digest behind Fork", p)
		}
	})
}

// TestH2ForksAreApart: what is done to one, or to a fork of it, is not seen at the other.
func TestH2ForksAreApart(t *testing.T) {
	s := spongeOf(t, 998244353)
	for what := range 4 {
		c := chain.New(s, []int{9})
		c.Take([]int{8})
		before := c.Digest()
		fork := c.Fork()
		third := fork.Fork()
		did(fork, what, 5)
		behind := fork.Digest()
		same(t, c.Digest(), before, "Digest behind what was done to a fork: %d", what)
		same(t, third.Digest(), before, "Digest of a fork's fork behind what was done to the fork: %d", what)
		did(c, 1, 0)
		did(c, what, 6)
		same(t, fork.Digest(), behind, "Digest of a fork behind what was done to its chain: %d", what)
		same(t, third.Digest(), before, "Digest of a fork's fork behind what was done to the chain: %d", what)
	}
}

// TestH2TheSameDoingsAnswerTheSame: with sponges that are not one another, and with forks in between, too.
func TestH2TheSameDoingsAnswerTheSame(t *testing.T) {
	r := rand.New(rand.NewSource(4))
	for _, p := range primes {
		label := someList(r, p, r.Intn(5))
		c, other := chain.New(spongeOf(t, p), label), chain.New(spongeOf(t, p), moved(r, p, label))
		for i := range 40 {
			what, n := r.Intn(4), r.Intn(12)-2
			same(t, did(other, what, n), did(c, what, n), "p = %d: doing %d", p, i)
			same(t, other.Digest(), c.Digest(), "p = %d: Digest behind doing %d", p, i)
			if r.Intn(3) == 0 {
				other = other.Fork()
			}
		}
	}
}

// TestH2OtherDoingsAnswerOtherwise: over a great field two digests are the same only if the same was done.
func TestH2OtherDoingsAnswerOtherwise(t *testing.T) {
	s := spongeOf(t, 2147483647)
	seen := map[string]int{}
	chains := []*chain.Chain{chain.New(s, nil), chain.New(s, []int{0}), chain.New(s, []int{3})}
	for _, c := range slices.Clone(chains) {
		for _, l := range [][]int{nil, {0}, {1}, {0, 0}, c.Digest()} {
			taken := c.Fork()
			taken.Take(l)
			chains = append(chains, taken)
		}
		drawn := c.Fork()
		drawn.Draw()
		chains = append(chains, drawn)
	}
	for i, c := range chains {
		key := fmt.Sprint(c.Digest())
		if j, ok := seen[key]; ok {
			t.Errorf("chains %d and %d have one digest", j, i)
		}
		seen[key] = i
	}
}

// TestP2ListsAreLeftAlone: neither written nor kept, nor is what stands behind them read or written.
func TestP2ListsAreLeftAlone(t *testing.T) {
	s := spongeOf(t, 97)
	memory := []int{5, -98, 7, 8, 9, 10, 11, 12}
	c, plain := chain.New(s, memory[:2]), chain.New(s, []int{5, -98})
	same(t, c.Digest(), plain.Digest(), "Digest of a label with more behind it")
	c.Take(memory[:3])
	plain.Take([]int{5, -98, 7})
	same(t, c.Digest(), plain.Digest(), "Digest behind a list with more behind it")
	same(t, memory, []int{5, -98, 7, 8, 9, 10, 11, 12}, "the memory of the lists")
	for i := range memory {
		memory[i] = 0
	}
	same(t, c.Digest(), plain.Digest(), "Digest behind lists that were written into")
	same(t, c.Draws(3), plain.Draws(3), "Draws behind lists that were written into")
}

// TestP2AnswersAreTheCallers: what is written into one, or behind it, is seen nowhere else.
func TestP2AnswersAreTheCallers(t *testing.T) {
	c := chain.New(spongeOf(t, 97), []int{1})
	plain := c.Fork()
	digest, draws := c.Digest(), c.Draws(3)
	behind := c.Digest()
	for _, l := range [][]int{digest, draws, behind} {
		for i := range l {
			l[i] = -1
		}
		_ = append(l, -1, -1)
	}
	plain.Draws(3)
	same(t, c.Digest(), plain.Digest(), "Digest behind answers that were written into")
	c.Take(c.Digest())
	plain.Take(plain.Digest())
	same(t, c.Draws(4), plain.Draws(4), "Draws behind answers that were written into")
}
