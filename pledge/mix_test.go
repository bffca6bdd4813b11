package pledge_test

import (
	"math"
	"math/rand"
	"slices"
	"testing"

	"attest/api"
	"attest/code"
	"attest/field"
	"attest/pledge"
	"attest/poly"
)

func fieldOf(t *testing.T, p int) *field.Field {
	t.Helper()
	f, err := field.New(p)
	if err != nil {
		t.Fatalf("field.New(%d): %v", p, err)
	}
	return f
}

func mixOf(t *testing.T, f *field.Field, rows [][]int, r int) []int {
	t.Helper()
	out, err := pledge.Mix(f, rows, r)
	told(t, err, api.OK, "Mix of %v by %d", rows, r)
	return out
}

func TestE2MixByHand(t *testing.T) {
	f := fieldOf(t, 97)
	rows := [][]int{{1, 2}, {3, 4}, {5, 6}}
	same(t, mixOf(t, f, rows, 0), []int{1, 2}, "Mix by 0")
	same(t, mixOf(t, f, rows, 1), []int{9, 12}, "Mix by 1")
	same(t, mixOf(t, f, rows, 3), []int{55, 68}, "Mix by 3")
	same(t, mixOf(t, f, rows, 10), []int{531 % 97, 642 % 97}, "Mix by 10")
	same(t, mixOf(t, f, rows, -94), []int{55, 68}, "Mix by another number for 3")
	same(t, mixOf(t, f, rows, 97), []int{1, 2}, "Mix by another number for 0")
	same(t, mixOf(t, f, [][]int{{98, -95}, {3, 4 + 970}, {5 - 97, 6}}, 3), []int{55, 68}, "Mix of other numbers")
	same(t, mixOf(t, f, [][]int{{-1, 97, 5}}, 60), []int{96, 0, 5}, "Mix of one row")
}

func TestE2MixIsAsItIsSaid(t *testing.T) {
	r := rand.New(rand.NewSource(7))
	for _, p := range []int{3, 5, 17, 97, 12289, 2013265921, 2147483647} {
		f := fieldOf(t, p)
		for range 100 {
			var rows [][]int
			wide := r.Intn(7)
			for range 1 + r.Intn(9) { // as many as are no power of 2, too
				rows = append(rows, someList(r, p, wide))
			}
			by := someNumber(r, p)
			same(t, mixOf(t, f, rows, by), mixBy(p, rows, by), "p = %d: Mix of %v by %d", p, rows, by)
		}
	}
}

func TestE2RowsOfNothing(t *testing.T) {
	f := fieldOf(t, 97)
	for _, rows := range [][][]int{{nil}, {{}}, {nil, {}}, {{}, nil, {}}} {
		same(t, len(mixOf(t, f, rows, 5)), 0, "Mix of %d rows of nothing", len(rows))
	}
}

func TestE2ManyRows(t *testing.T) {
	f := fieldOf(t, 97)
	rows := slices.Repeat([][]int{{1, 2}}, 96*1000) // 96 powers of 5, one behind the other, sum up to 0
	same(t, mixOf(t, f, rows, 5), []int{0, 0}, "Mix of many rows by 5")
	same(t, mixOf(t, f, rows, 1), []int{96000 % 97, 192000 % 97}, "Mix of many rows by 1")
	same(t, mixOf(t, f, [][]int{make([]int, 100000)}, 5)[99999], 0, "Mix of a long row")
}

func TestE2WrongSizes(t *testing.T) {
	f := fieldOf(t, 97)
	for _, rows := range [][][]int{
		nil, {}, {{1}, {}}, {{}, {1}}, {{1}, nil}, {nil, {1}}, {{1, 2}, {3}}, {{1}, {2, 3}}, {{1}, {2}, {3, 4}}, {{1}, {2, 3}, {4}},
		{{1, 2}, {3}, {4}}, {{1, 2}, {3, 4}, {5, 6}, {7, 8, 0}}, {{1, 2}, {3, 4}, {5, 6}, {7}},
	} {
		for _, r := range []int{0, 1, 3, math.MinInt, math.MaxInt} {
			out, err := pledge.Mix(f, rows, r)
			told(t, err, api.ErrSize, "Mix of %v by %d", rows, r)
			same(t, len(out), 0, "Mix of %v by %d: its answer", rows, r)
		}
	}
}

func TestP2MixLeavesRowsAlone(t *testing.T) {
	f := fieldOf(t, 97)
	memory := []int{1, -95, 3, 4, 9, 9}
	rows := [][]int{memory[:2], memory[2:4]}
	out := mixOf(t, f, rows, 3)
	same(t, memory, []int{1, -95, 3, 4, 9, 9}, "the memory of the rows")
	out[0] = 7
	_ = append(out, 8)
	same(t, memory, []int{1, -95, 3, 4, 9, 9}, "the memory of the rows, the answer being written into")
	same(t, mixOf(t, f, rows, 3), []int{10, 14}, "Mix again")
	alone := [][]int{memory[:3:3]}
	mixOf(t, f, alone, 1)[0] = 50
	same(t, memory[0], 1, "the memory of a row that is alone, the answer being written into")
}

// codewords tells with how many elements Mix of words is a codeword below k.
func codewords(t *testing.T, g stage, words [][]int, k int) (count int) {
	t.Helper()
	for r := range g.p {
		if code.Is(g.d, k, mixOf(t, g.f, words, r)) {
			count++
		}
	}
	return count
}

// TestE5OneThatIsNoCodeword: at any of the places, one word is none, or several are.
func TestE5OneThatIsNoCodeword(t *testing.T) {
	r := rand.New(rand.NewSource(8))
	for _, n := range [][2]int{{29, 4}, {97, 8}, {97, 32}, {193, 16}} {
		for _, tall := range []int{1, 2, 4, 8} {
			g := stageOf(t, n[0], n[1], 5, 0, 1)
			for k := 1; k < g.size; k += max(1, k) {
				var words [][]int
				for range tall {
					words = append(words, g.d.Values(someList(r, g.p, k)))
				}
				same(t, codewords(t, g, words, k), g.p, "%v: elements by which codewords below %d make one", g, k)
				for range 1 + r.Intn(2) {
					words[r.Intn(tall)][r.Intn(g.size)]++
				}
				none := slices.ContainsFunc(words, func(word []int) bool { return !code.Is(g.d, k, word) })
				if count := codewords(t, g, words, k); none && count > tall-1 {
					t.Errorf("%v: %d elements make a codeword below %d of %d words", g, count, k, tall)
				}
			}
		}
	}
}

// TestE5AsManyAsMayBe: words that become a codeword with 2^a - 1 elements, and not with one more.
func TestE5AsManyAsMayBe(t *testing.T) {
	r := rand.New(rand.NewSource(9))
	for _, tall := range []int{1, 2, 4, 8, 16} {
		g := stageOf(t, 97, 8, 5, 0, 1)
		k := 4
		wrong := g.d.Values([]int{0, 0, 0, 0, 1})
		for range 5 {
			zeros := r.Perm(97)[:tall-1]
			var words [][]int
			for _, n := range poly.Vanish(g.f, zeros) { // what is wrong comes to 0 by each of zeros
				word := g.d.Values(someList(r, g.p, k))
				for j := range word {
					word[j] += n * wrong[j]
				}
				words = append(words, word)
			}
			same(t, len(words), tall, "words")
			same(t, codewords(t, g, words, k), tall-1, "elements that make a codeword of %d words that are none", tall)
		}
	}
}
