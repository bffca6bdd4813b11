package sponge_test

import (
	"fmt"
	"math"
	"math/big"
	"math/rand"
	"slices"
	"testing"

	"attest/api"
	"attest/field"
	"attest/plain"
	"attest/sponge"
)

// primes: the least that may be, those of which p - 1 has many small divisors, and the greatest.
var primes = []int{23, 29, 31, 43, 97, 193, 211, 2311, 12289, 65537, 120121, 106696591, 892371481, 998244353, 2013265921, 2147483647}

func fieldOf(t *testing.T, p int) *field.Field {
	t.Helper()
	f, err := field.New(p)
	if err != nil || f == nil {
		t.Fatalf("field.New(%d): %v", p, err)
	}
	return f
}

func spongeOf(t *testing.T, p int) *sponge.Sponge {
	t.Helper()
	s, err := sponge.New(fieldOf(t, p))
	if err != nil || s == nil {
		t.Fatalf("New of p = %d: %v", p, err)
	}
	return s
}

func eachSponge(t *testing.T, work func(p int, s *sponge.Sponge)) {
	t.Helper()
	for _, p := range primes {
		work(p, spongeOf(t, p))
	}
}

func bigOf(n int) *big.Int { return big.NewInt(int64(n)) }

func element(n *big.Int, p int) int { return int(new(big.Int).Mod(n, bigOf(p)).Int64()) }

// constantAt, matrixAt and powerOf are reckoned by big numbers.
func constantAt(p, r, i int) int {
	power := new(big.Int).Exp(bigOf(8*r+i+1), bigOf(5), nil)
	return element(power.Add(power, bigOf(3)), p)
}

func matrixAt(p, i, j int) int { return int(new(big.Int).ModInverse(bigOf(i+j+8), bigOf(p)).Int64()) }

func powerOf(p int) int {
	for n := 2; ; n++ {
		if new(big.Int).GCD(nil, nil, bigOf(n), bigOf(p-1)).Int64() == 1 {
			return n
		}
	}
}

func mixed(p int, l []int) []int {
	out := make([]int, 8)
	for i := range out {
		sum := new(big.Int)
		for j, n := range l {
			sum.Add(sum, new(big.Int).Mul(bigOf(matrixAt(p, i, j)), bigOf(n)))
		}
		out[i] = element(sum, p)
	}
	return out
}

func permuted(p int, l []int) []int {
	power := bigOf(powerOf(p))
	for r := range 8 {
		raised := make([]int, 8)
		for i, n := range l {
			sum := new(big.Int).Add(bigOf(n), bigOf(constantAt(p, r, i)))
			raised[i] = element(sum.Exp(sum.Mod(sum, bigOf(p)), power, nil), p)
		}
		l = mixed(p, raised)
	}
	return l
}

func padded(p int, l []int) []int {
	var out []int
	for _, n := range l {
		out = append(out, element(bigOf(n), p))
	}
	out = append(out, 1)
	for len(out)%4 != 0 {
		out = append(out, 0)
	}
	return out
}

func hashed(p int, l []int) []int {
	state := make([]int, 8)
	for pad := padded(p, l); len(pad) > 0; pad = pad[4:] {
		for i := range 4 {
			state[i] += pad[i]
		}
		state = permuted(p, state)
	}
	return state[:4]
}

func same(t *testing.T, got, want []int, what string, args ...any) {
	t.Helper()
	if !slices.Equal(got, want) {
		t.Errorf("%s: got %v, want %v", fmt.Sprintf(what, args...), got, want)
	}
}

// someList draws one of a length; half of its numbers are no elements, and some are 0.
func someList(r *rand.Rand, p, length int) []int {
	out := make([]int, length)
	for i := range out {
		switch r.Intn(4) {
		case 0:
			out[i] = int(r.Uint64())
		case 1:
			out[i] = p * (r.Intn(5) - 2)
		default:
			out[i] = r.Intn(p)
		}
	}
	return out
}

func elements(p int, l []int) []int {
	out := make([]int, len(l))
	for i, n := range l {
		out[i] = element(bigOf(n), p)
	}
	return out
}

// states are those at the edges, and some that are drawn.
func states(r *rand.Rand, p int) [][]int {
	out := [][]int{
		make([]int, 8),
		slices.Repeat([]int{1}, 8),
		slices.Repeat([]int{p - 1}, 8),
		slices.Repeat([]int{p}, 8),
		slices.Repeat([]int{-1}, 8),
		slices.Repeat([]int{math.MaxInt}, 8),
		slices.Repeat([]int{math.MinInt}, 8),
		{math.MinInt, math.MaxInt, -p, p, 1 - p, p + 1, 0, -1},
	}
	for i := range 8 {
		one := make([]int, 8)
		one[i] = 1
		out = append(out, one)
	}
	for i := range 8 { // these are all 0 behind what is added in the round r
		zeros := make([]int, 8)
		for j := range zeros {
			zeros[j] = -constantAt(p, i, j)
		}
		out = append(out, zeros)
	}
	for range 20 {
		out = append(out, someList(r, p, 8))
	}
	return out
}

func TestS1NewRefusesPrimesBelow23(t *testing.T) {
	for _, p := range []int{3, 5, 7, 11, 13, 17, 19} {
		s, err := sponge.New(fieldOf(t, p))
		if s != nil || plain.Told(err) != api.ErrRange {
			t.Errorf("New of p = %d: got %v, %v, want ErrRange", p, s, err)
		}
	}
}

func TestS1NewTakesPrimesFrom23On(t *testing.T) {
	for _, p := range primes {
		f := fieldOf(t, p)
		s, err := sponge.New(f)
		if err != nil || s == nil || s.Field() != f || s.Field().P() != p {
			t.Errorf("New of p = %d: got %v, %v, which is not over that field", p, s, err)
		}
	}
}

func TestS1Power(t *testing.T) {
	eachSponge(t, func(p int, s *sponge.Sponge) {
		if got, want := s.Power(), powerOf(p); got != want {
			t.Errorf("p = %d: Power: got %d, want %d", p, got, want)
		}
	})
	// Of these p - 1 has the divisors 2, 3, 5 .. up to one prime: the next prime is the least.
	for p, want := range map[int]int{23: 3, 31: 7, 211: 11, 2311: 13, 120121: 17, 106696591: 23, 892371481: 29} {
		if got := spongeOf(t, p).Power(); got != want {
			t.Errorf("p = %d: Power: got %d, want %d", p, got, want)
		}
	}
}

func TestS1Matrix(t *testing.T) {
	eachSponge(t, func(p int, s *sponge.Sponge) {
		m := s.Matrix()
		if len(m) != 8 {
			t.Fatalf("p = %d: %d rows, want 8", p, len(m))
		}
		for i, row := range m {
			var want []int
			for j := range 8 {
				want = append(want, matrixAt(p, i, j))
			}
			same(t, row, want, "p = %d: row %d", p, i)
		}
	})
}

func TestS1Constant(t *testing.T) {
	eachSponge(t, func(p int, s *sponge.Sponge) {
		for r := range 8 {
			for i := range 8 {
				if got, want := s.Constant(r, i), constantAt(p, r, i); got != want {
					t.Errorf("p = %d: Constant(%d, %d): got %d, want %d", p, r, i, got, want)
				}
			}
		}
	})
}

func TestS1ConstantElsewhereIsZero(t *testing.T) {
	out := []int{-1, 8, 9, 64, -8, math.MinInt, math.MaxInt, math.MinInt32, math.MaxInt32}
	eachSponge(t, func(p int, s *sponge.Sponge) {
		for _, n := range append(out, p, -p) {
			for i := range 8 {
				if s.Constant(n, i) != 0 || s.Constant(i, n) != 0 || s.Constant(n, n) != 0 {
					t.Errorf("p = %d: Constant(%d, %d), or the other way about, or of %d alone is not 0", p, n, i, n)
				}
			}
		}
	})
}

func TestS2Mix(t *testing.T) {
	r := rand.New(rand.NewSource(1))
	eachSponge(t, func(p int, s *sponge.Sponge) {
		for _, l := range states(r, p) {
			same(t, s.Mix(l), mixed(p, l), "p = %d: Mix of %v", p, l)
		}
	})
}

func TestS2Permute(t *testing.T) {
	r := rand.New(rand.NewSource(2))
	eachSponge(t, func(p int, s *sponge.Sponge) {
		for _, l := range states(r, p) {
			same(t, s.Permute(l), permuted(p, l), "p = %d: Permute of %v", p, l)
		}
	})
}

func TestS2UnpermuteUndoesPermute(t *testing.T) {
	r := rand.New(rand.NewSource(3))
	eachSponge(t, func(p int, s *sponge.Sponge) {
		for _, l := range states(r, p) {
			same(t, s.Unpermute(permuted(p, l)), elements(p, l), "p = %d: Unpermute of what Permute makes of %v", p, l)
			same(t, permuted(p, s.Unpermute(l)), elements(p, l), "p = %d: Permute of what Unpermute makes of %v", p, l)
		}
	})
}

func TestS2WhatHasNot8PlacesMakesNothing(t *testing.T) {
	r := rand.New(rand.NewSource(4))
	eachSponge(t, func(p int, s *sponge.Sponge) {
		for _, size := range []int{0, 1, 4, 7, 9, 12, 16, 64} {
			l := someList(r, p, size)
			if len(s.Mix(l))+len(s.Permute(l))+len(s.Unpermute(l)) != 0 {
				t.Errorf("p = %d: something is made of %d places", p, size)
			}
		}
		if s.Mix(nil) != nil || s.Permute(nil) != nil || s.Unpermute(nil) != nil {
			t.Errorf("p = %d: something is made of nil", p)
		}
	})
}

func differences(p int, a, b []int) int {
	count := 0
	for i := range a {
		if element(bigOf(a[i]), p) != element(bigOf(b[i]), p) {
			count++
		}
	}
	return count
}

// TestS3OneToThreeDifferences goes through all of them over the least field, but for what they are multiplied by.
func TestS3OneToThreeDifferences(t *testing.T) {
	const p = 23
	s := spongeOf(t, p)
	base := []int{3, 0, 22, 7, 1, 1, 15, 9}
	behind := s.Mix(base)
	for i := range 8 {
		for j := range i + 1 {
			for k := range j + 1 {
				for n := range p * p {
					l := slices.Clone(base)
					l[i]++
					l[j] += n % p
					l[k] += n / p
					d := differences(p, base, l)
					if got := differences(p, behind, s.Mix(l)); d > 0 && got < 9-d {
						t.Fatalf("%v and %v differ at %d places, and behind Mix at %d", base, l, d, got)
					}
				}
			}
		}
	}
}

func TestS3SomeDifferences(t *testing.T) {
	r := rand.New(rand.NewSource(5))
	for _, p := range []int{23, 29, 97, 2147483647} {
		s := spongeOf(t, p)
		for n := range 4000 {
			a := someList(r, p, 8)
			b := slices.Clone(a)
			for _, i := range r.Perm(8)[:1+n%8] {
				b[i] = element(bigOf(b[i]), p) + 1 + r.Intn(p-1)
			}
			d := differences(p, a, b)
			if got := differences(p, s.Mix(a), s.Mix(b)); d != 1+n%8 || got < 9-d {
				t.Errorf("p = %d: %v and %v differ at %d places, and behind Mix at %d", p, a, b, d, got)
			}
		}
	}
}

// bitsOf tells which places a number's bits stand for.
func bitsOf(n int) (out []int) {
	for i := range 8 {
		if n>>i&1 == 1 {
			out = append(out, i)
		}
	}
	return out
}

// least gives the state that is 0 but at some places, is 1 at the last of these, and behind Mix is 0 at as many
// places but one: it solves for the others by striking one out after the other.
func least(f *field.Field, m [][]int, places, zeros []int) []int {
	rows := make([][]int, len(zeros))
	for i, z := range zeros {
		for _, x := range places {
			rows[i] = append(rows[i], m[z][x])
		}
	}
	for c := range rows {
		at := slices.IndexFunc(rows[c:], func(row []int) bool { return row[c] != 0 })
		if at < 0 {
			return nil
		}
		rows[c], rows[c+at] = rows[c+at], rows[c]
		scale := f.Inv(rows[c][c])
		for i := range rows[c] {
			rows[c][i] = f.Mul(rows[c][i], scale)
		}
		for i := range rows {
			for j, factor := len(places)-1, rows[i][c]; i != c && j >= 0; j-- {
				rows[i][j] = f.Sub(rows[i][j], f.Mul(factor, rows[c][j]))
			}
		}
	}
	out := make([]int, 8)
	out[places[len(places)-1]] = 1
	for i, row := range rows {
		out[places[i]] = f.Neg(row[len(places)-1])
	}
	return out
}

// TestS3TheLeastDifferences: for any places that two states may differ at, and as many places but one behind Mix,
// there is a difference that is not seen at the latter. It is seen at all others.
func TestS3TheLeastDifferences(t *testing.T) {
	for _, p := range []int{23, 97} {
		s := spongeOf(t, p)
		m, none := s.Matrix(), make([]int, 8)
		for n := 1; n < 1<<8; n++ {
			places := bitsOf(n)
			for z := range 1 << 8 {
				zeros := bitsOf(z)
				if len(zeros) != len(places)-1 {
					continue
				}
				l := least(s.Field(), m, places, zeros)
				if d := differences(p, none, l); l == nil || d != len(places) {
					t.Fatalf("p = %d: of the places %v fewer are enough: %v", p, places, l)
				}
				if got := differences(p, none, s.Mix(l)); got != 9-len(places) {
					t.Fatalf("p = %d: %v is seen at %d places behind Mix, want %d", p, l, got, 9-len(places))
				}
			}
		}
	}
}

func TestS4Pad(t *testing.T) {
	r := rand.New(rand.NewSource(6))
	eachSponge(t, func(p int, s *sponge.Sponge) {
		for size := range 20 {
			l := someList(r, p, size)
			same(t, s.Pad(l), padded(p, l), "p = %d: Pad of %v", p, l)
		}
	})
}

func TestS4PadAtTheEdges(t *testing.T) {
	s := spongeOf(t, 97)
	cases := []struct{ l, want []int }{
		{nil, []int{1, 0, 0, 0}},
		{[]int{}, []int{1, 0, 0, 0}},
		{[]int{0}, []int{0, 1, 0, 0}},
		{[]int{5, 1}, []int{5, 1, 1, 0}},
		{[]int{97, -1, 98}, []int{0, 96, 1, 1}},
		{[]int{1, 0, 0, 0}, []int{1, 0, 0, 0, 1, 0, 0, 0}},
		{[]int{1, 2, 3, 4, 5, 6, 7}, []int{1, 2, 3, 4, 5, 6, 7, 1}},
		{[]int{math.MaxInt, math.MinInt}, []int{math.MaxInt % 97, 97 + math.MinInt%97, 1, 0}},
	}
	for _, c := range cases {
		same(t, s.Pad(c.l), c.want, "Pad of %v", c.l)
	}
}

// TestS4UnlikeListsHaveUnlikePads goes through all lists of 0, 1 and 2 up to a length, and finds none twice.
func TestS4UnlikeListsHaveUnlikePads(t *testing.T) {
	s := spongeOf(t, 23)
	seen := map[string][]int{}
	lists := [][]int{{}}
	for range 9 {
		var longer [][]int
		for _, l := range lists {
			pad := fmt.Sprint(s.Pad(l))
			if other, ok := seen[pad]; ok {
				t.Errorf("%v and %v have the Pad %v", other, l, pad)
			}
			seen[pad] = l
			for n := range 3 {
				longer = append(longer, append(slices.Clone(l), n))
			}
		}
		lists = longer
	}
}

func TestS4Hash(t *testing.T) {
	r := rand.New(rand.NewSource(7))
	eachSponge(t, func(p int, s *sponge.Sponge) {
		for size := range 14 {
			l := someList(r, p, size)
			same(t, s.Hash(l), hashed(p, l), "p = %d: Hash of %v", p, l)
		}
		same(t, s.Hash(nil), hashed(p, nil), "p = %d: Hash of nil", p)
		ends := []int{math.MinInt, math.MaxInt, math.MinInt + 1, math.MaxInt - 1, p, -p}
		same(t, s.Hash(ends), hashed(p, ends), "p = %d: Hash of %v", p, ends)
	})
}

// TestS4HashOfTheSameElements: what differs by multiples of p is the same list.
func TestS4HashOfTheSameElements(t *testing.T) {
	r := rand.New(rand.NewSource(8))
	eachSponge(t, func(p int, s *sponge.Sponge) {
		l := someList(r, p, 11)
		same(t, s.Hash(l), s.Hash(elements(p, l)), "p = %d: Hash of %v, and of its elements", p, l)
	})
}

func TestS4HashOfALongList(t *testing.T) {
	r := rand.New(rand.NewSource(9))
	s := spongeOf(t, 2013265921)
	for _, size := range []int{255, 256, 257} {
		l := someList(r, 2013265921, size)
		same(t, s.Hash(l), hashed(2013265921, l), "Hash of %d numbers", size)
	}
}

// TestS4NothingStandsBehindADigest: whoever makes it longer has other memory.
func TestS4NothingStandsBehindADigest(t *testing.T) {
	for size := range 9 {
		if d := spongeOf(t, 97).Hash(make([]int, size)); len(d) != 4 || cap(d) != 4 {
			t.Errorf("the digest of %d zeros has %d places, and room for %d", size, len(d), cap(d))
		}
	}
}

// eachCall goes through those that take a list.
func eachCall(s *sponge.Sponge, work func(name string, call func([]int) []int)) {
	work("Permute", s.Permute)
	work("Unpermute", s.Unpermute)
	work("Mix", s.Mix)
	work("Pad", s.Pad)
	work("Hash", s.Hash)
}

// TestP2ListsAreLeftAlone: neither what is handed in nor what stands behind it is written, and the latter is not read.
func TestP2ListsAreLeftAlone(t *testing.T) {
	r := rand.New(rand.NewSource(10))
	for _, size := range []int{0, 3, 8, 9} {
		memory := someList(r, 97, size+8)
		before := slices.Clone(memory)
		eachCall(spongeOf(t, 97), func(name string, call func([]int) []int) {
			same(t, call(memory[:size]), call(slices.Clone(memory[:size])), "%s of %d numbers with more behind them", name, size)
			same(t, memory, before, "the memory of %d numbers behind %s", size, name)
		})
	}
}

// TestP2AnswersAreTheCallers: what is written into one is not seen in a later one, nor in what was handed in.
func TestP2AnswersAreTheCallers(t *testing.T) {
	s := spongeOf(t, 97)
	l := []int{1, 2, 3, 4, 5, 6, 7, 8}
	eachCall(s, func(name string, call func([]int) []int) {
		first := call(l)
		want := slices.Clone(first)
		for i := range first {
			first[i] = -1
		}
		same(t, call(l), want, "%s behind an answer that was written into", name)
		same(t, l, []int{1, 2, 3, 4, 5, 6, 7, 8}, "the list behind an answer of %s that was written into", name)
	})
}

func TestP2MatrixIsTheCallers(t *testing.T) {
	s := spongeOf(t, 97)
	first := s.Matrix()
	for i := range first {
		_ = append(first[i], -1)
		first[i][0] = -1
	}
	for i, row := range first {
		same(t, row[1:], s.Matrix()[i][1:], "row %d behind one that was made longer", i)
	}
	for i, row := range s.Matrix() {
		if row[0] != matrixAt(97, i, 0) {
			t.Errorf("row %d is what was written into an answer", i)
		}
	}
	same(t, s.Mix([]int{1, 0, 0, 0, 0, 0, 0, 0}), mixed(97, []int{1}), "Mix behind an answer that was written into")
}

// TestP2AnswersHangOnTheArguments: not on what was asked ahead.
func TestP2AnswersHangOnTheArguments(t *testing.T) {
	r := rand.New(rand.NewSource(11))
	used := spongeOf(t, 193)
	for range 50 {
		l := someList(r, 193, r.Intn(10))
		used.Permute(someList(r, 193, 8))
		used.Unpermute(someList(r, 193, 8))
		same(t, used.Hash(l), spongeOf(t, 193).Hash(l), "Hash of %v", l)
	}
}

func TestTableOfTheDocument(t *testing.T) {
	s := spongeOf(t, 97)
	if s.Power() != 5 || s.Matrix()[0][0] != 85 || s.Constant(0, 1) != 35 {
		t.Errorf("p = 97: Power %d, Matrix()[0][0] %d, Constant(0, 1) %d, want 5, 85, 35", s.Power(), s.Matrix()[0][0], s.Constant(0, 1))
	}
	same(t, s.Pad([]int{5}), []int{5, 1, 0, 0}, "Pad of 5")
}

func BenchmarkHash(b *testing.B) {
	f, _ := field.New(2013265921)
	s, _ := sponge.New(f)
	l := make([]int, 8)
	for b.Loop() {
		l[0]++
		s.Hash(l)
	}
}
