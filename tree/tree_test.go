package tree_test

import (
	"fmt"
	"math"
	"math/rand"
	"slices"
	"testing"

	"attest/api"
	"attest/field"
	"attest/plain"
	"attest/sponge"
	"attest/tree"
)

// primes: the least of which there is a sponge, some, and the greatest.
var primes = []int{23, 97, 12289, 2147483647}

func spongeOf(t *testing.T, p int) *sponge.Sponge {
	t.Helper()
	f, err := field.New(p)
	if err != nil {
		t.Fatalf("field.New(%d): %v", p, err)
	}
	s, err := sponge.New(f)
	if err != nil || s == nil {
		t.Fatalf("sponge.New of p = %d: %v", p, err)
	}
	return s
}

func eachSponge(t *testing.T, work func(p int, s *sponge.Sponge)) {
	t.Helper()
	for _, p := range primes {
		work(p, spongeOf(t, p))
	}
}

func same(t *testing.T, got, want any, what string, args ...any) {
	t.Helper()
	if g, w := fmt.Sprint(got), fmt.Sprint(want); g != w {
		t.Errorf("%s: got %s, want %s", fmt.Sprintf(what, args...), g, w)
	}
}

// someRows draws some of lengths from 0 to 9; half of their numbers are no elements.
func someRows(r *rand.Rand, p, n int) [][]int {
	out := make([][]int, n)
	for i := range out {
		out[i] = make([]int, r.Intn(10))
		for j := range out[i] {
			switch r.Intn(4) {
			case 0:
				out[i][j] = int(r.Uint64())
			case 1:
				out[i][j] = p * (r.Intn(5) - 2)
			default:
				out[i][j] = r.Intn(p)
			}
		}
	}
	return out
}

func element(p, n int) int { return (n%p + p) % p }

func elements(p int, rows [][]int) [][]int {
	out := make([][]int, len(rows))
	for i, row := range rows {
		for _, n := range row {
			out[i] = append(out[i], element(p, n))
		}
	}
	return out
}

// firstPart: the greatest power of 2 below n.
func firstPart(n int) int {
	m := 1
	for m*2 < n {
		m *= 2
	}
	return m
}

// rootBy works a root out as T1 says it.
func rootBy(s *sponge.Sponge, rows [][]int) []int {
	if len(rows) == 1 {
		return s.Hash(append([]int{0}, rows[0]...))
	}
	m := firstPart(len(rows))
	return s.Hash(slices.Concat([]int{1}, rootBy(s, rows[:m]), rootBy(s, rows[m:])))
}

// span: the rows from a place to ahead of another one; and whether the place is one of them.
type span struct{ from, end int }

func (g span) has(places []int) bool {
	return slices.ContainsFunc(places, func(at int) bool { return g.from <= at && at < g.end })
}

// spans: each group of a tree, from the left, a greater one ahead of its parts; and to each the one that it is a part of.
func spans(g, whole span) (groups, wholes []span) {
	groups, wholes = []span{g}, []span{whole}
	if g.end-g.from > 1 {
		m := g.from + firstPart(g.end-g.from)
		for _, part := range []span{{g.from, m}, {m, g.end}} {
			more, over := spans(part, g)
			groups, wholes = append(groups, more...), append(wholes, over...)
		}
	}
	return groups, wholes
}

// nodesBy gives Nodes as T2 says them.
func nodesBy(s *sponge.Sponge, rows [][]int, places []int) (out [][]int) {
	if len(places) == 0 {
		return [][]int{rootBy(s, rows)}
	}
	all := span{0, len(rows)}
	groups, wholes := spans(all, all)
	for i, g := range groups {
		if !g.has(places) && wholes[i].has(places) {
			out = append(out, rootBy(s, rows[g.from:g.end]))
		}
	}
	return out
}

// openingBy gives what Open is to give, of places that are ascending.
func openingBy(p int, s *sponge.Sponge, rows [][]int, places []int) api.Opening {
	o := api.Opening{Places: places, Nodes: nodesBy(s, rows, places)}
	for _, at := range places {
		o.Rows = append(o.Rows, rows[at])
	}
	o.Rows = elements(p, o.Rows)
	return o
}

// subset: the places that a number's bits stand for.
func subset(n, bits int) (out []int) {
	for at := range n {
		if bits>>at&1 == 1 {
			out = append(out, at)
		}
	}
	return out
}

// somePlaces draws as many, ascending.
func somePlaces(r *rand.Rand, n, count int) []int {
	out := r.Perm(n)[:count]
	slices.Sort(out)
	return out
}

func rootOf(t *testing.T, s *sponge.Sponge, rows [][]int) []int {
	t.Helper()
	root, err := tree.Root(s, rows)
	if err != nil || len(root) != 4 {
		t.Fatalf("Root of %d rows: %v, %v", len(rows), root, err)
	}
	return root
}

func opened(t *testing.T, s *sponge.Sponge, rows [][]int, places ...int) api.Opening {
	t.Helper()
	o, err := tree.Open(s, rows, places)
	if err != nil {
		t.Fatalf("Open of %d rows at %v: %v", len(rows), places, err)
	}
	return o
}

// copied gives an Opening in memory of its own.
func copied(o api.Opening) (out api.Opening) {
	out.Places = slices.Clone(o.Places)
	for _, row := range o.Rows {
		out.Rows = append(out.Rows, slices.Clone(row))
	}
	for _, node := range o.Nodes {
		out.Nodes = append(out.Nodes, slices.Clone(node))
	}
	return out
}

func TestT1Root(t *testing.T) {
	r := rand.New(rand.NewSource(1))
	eachSponge(t, func(p int, s *sponge.Sponge) {
		for _, n := range []int{1, 2, 3, 4, 5, 6, 7, 8, 9, 10, 11, 12, 13, 15, 16, 17, 31, 33, 64, 65, 100} {
			rows := someRows(r, p, n)
			same(t, rootOf(t, s, rows), rootBy(s, rows), "p = %d: Root of %v", p, rows)
			same(t, rootOf(t, s, elements(p, rows)), rootBy(s, rows), "p = %d: Root of the elements of %v", p, rows)
		}
	})
}

func TestT1RootByHand(t *testing.T) {
	eachSponge(t, func(p int, s *sponge.Sponge) {
		a, b, c := s.Hash([]int{0, 5}), s.Hash([]int{0}), s.Hash([]int{0, 1, 2, math.MinInt})
		rows := [][]int{{5}, {}, {1, 2, math.MinInt}}
		ab := s.Hash([]int{1, a[0], a[1], a[2], a[3], b[0], b[1], b[2], b[3]})
		abc := s.Hash([]int{1, ab[0], ab[1], ab[2], ab[3], c[0], c[1], c[2], c[3]})
		same(t, rootOf(t, s, rows[:1]), a, "p = %d: Root of one row", p)
		same(t, rootOf(t, s, rows[1:2]), b, "p = %d: Root of an empty row", p)
		same(t, rootOf(t, s, [][]int{nil}), b, "p = %d: Root of a row that is nil", p)
		same(t, rootOf(t, s, rows[:2]), ab, "p = %d: Root of two rows", p)
		same(t, rootOf(t, s, rows), abc, "p = %d: Root of three rows", p)
	})
}

func TestT1RootOfLongRows(t *testing.T) {
	s := spongeOf(t, 12289)
	rows := [][]int{make([]int, 1000), make([]int, 1001), slices.Repeat([]int{-1}, 3000)}
	same(t, rootOf(t, s, rows), rootBy(s, rows), "Root of long rows")
}

// refused asks that both calls tell an error, and nothing else.
func refused(t *testing.T, s *sponge.Sponge, rows [][]int, places []int, want api.Errno) {
	t.Helper()
	o, err := tree.Open(s, rows, places)
	if o.Places != nil || o.Rows != nil || o.Nodes != nil || plain.Told(err) != want {
		t.Errorf("Open of %d rows at %v: got %v, %v, want %v alone", len(rows), places, o, err, want)
	}
}

func TestT1NoRowsAndTooMany(t *testing.T) {
	s := spongeOf(t, 97)
	for _, rows := range [][][]int{nil, {}, make([][]int, api.MaxSize+1), make([][]int, 2*api.MaxSize)} {
		if root, err := tree.Root(s, rows); root != nil || plain.Told(err) != api.ErrSize {
			t.Errorf("Root of %d rows: got %v, %v, want ErrSize", len(rows), root, err)
		}
		// ErrSize is told ahead of ErrRange.
		for _, places := range [][]int{nil, {0}, {-1}, {len(rows)}, {math.MaxInt, math.MinInt}} {
			refused(t, s, rows, places, api.ErrSize)
		}
	}
}

// TestT1MostRows: as all are alike, there is one root for each number of rows that is a power of 2.
func TestT1MostRows(t *testing.T) {
	s := spongeOf(t, 97)
	want := s.Hash([]int{0, 7})
	for range 16 {
		want = s.Hash(slices.Concat([]int{1}, want, want))
	}
	rows := slices.Repeat([][]int{{7}}, api.MaxSize)
	same(t, rootOf(t, s, rows), want, "Root of as many rows as may be")
	o := opened(t, s, rows, 0, api.MaxSize-1)
	if len(o.Nodes) != 30 || !tree.Check(s, want, api.MaxSize, o) {
		t.Errorf("an Opening of as many rows as may be has %d nodes, or is not taken", len(o.Nodes))
	}
	o.Places[1]++
	if tree.Check(s, want, api.MaxSize+1, o) || tree.Check(s, want, api.MaxSize, o) {
		t.Errorf("an Opening at the place %d is taken", api.MaxSize)
	}
}

// TestT2AllPlaces goes through all choices of places in small trees.
func TestT2AllPlaces(t *testing.T) {
	r := rand.New(rand.NewSource(2))
	s := spongeOf(t, 97)
	for n := 1; n <= 9; n++ {
		rows := someRows(r, 97, n)
		for bits := range 1 << n {
			places := subset(n, bits)
			same(t, opened(t, s, rows, places...), openingBy(97, s, rows, places), "Open of %v at %v", rows, places)
		}
	}
}

func TestT2SomePlaces(t *testing.T) {
	r := rand.New(rand.NewSource(3))
	eachSponge(t, func(p int, s *sponge.Sponge) {
		for range 20 {
			n := 1 + r.Intn(70)
			rows := someRows(r, p, n)
			places := somePlaces(r, n, r.Intn(n+1))
			same(t, opened(t, s, rows, places...), openingBy(p, s, rows, places), "p = %d: Open of %v at %v", p, rows, places)
		}
	})
}

// TestT2PlacesInAnyOrder: they are told ascending, and each once.
func TestT2PlacesInAnyOrder(t *testing.T) {
	r := rand.New(rand.NewSource(4))
	s := spongeOf(t, 193)
	rows := someRows(r, 193, 21)
	for range 50 {
		places := somePlaces(r, 21, 1+r.Intn(21))
		asked := slices.Concat(places, places[r.Intn(len(places)):])
		r.Shuffle(len(asked), func(i, j int) { asked[i], asked[j] = asked[j], asked[i] })
		same(t, opened(t, s, rows, asked...), openingBy(193, s, rows, places), "Open at %v", asked)
	}
}

func TestT2PlacesThatAreNone(t *testing.T) {
	s := spongeOf(t, 97)
	for n := 1; n <= 6; n++ {
		rows := slices.Repeat([][]int{{1}}, n)
		for _, at := range []int{-1, n, n + 1, -n, 97, math.MinInt, math.MaxInt, api.MaxSize, 1 << 32, -1 << 32} {
			refused(t, s, rows, []int{at}, api.ErrRange)
			refused(t, s, rows, []int{0, n - 1, at}, api.ErrRange)
			refused(t, s, rows, []int{at, 0, at}, api.ErrRange)
		}
	}
}

func TestT3TakesWhatOpenGives(t *testing.T) {
	r := rand.New(rand.NewSource(5))
	s := spongeOf(t, 97)
	for n := 1; n <= 8; n++ {
		rows := someRows(r, 97, n)
		for bits := range 1 << n {
			if o := openingBy(97, s, rows, subset(n, bits)); !tree.Check(s, rootBy(s, rows), n, o) {
				t.Errorf("Check refuses %v of %v", o, rows)
			}
		}
	}
	eachSponge(t, func(p int, s *sponge.Sponge) {
		for range 10 {
			n := 1 + r.Intn(70)
			rows := someRows(r, p, n)
			if o := opened(t, s, rows, somePlaces(r, n, r.Intn(n+1))...); !tree.Check(s, rootOf(t, s, rows), n, o) {
				t.Errorf("p = %d: Check refuses %v of %v", p, o, rows)
			}
		}
	})
}

// moved gives lists whose numbers differ by multiples of p.
func moved(r *rand.Rand, p int, lists [][]int) [][]int {
	out := make([][]int, len(lists))
	for i, l := range lists {
		for _, n := range l {
			out[i] = append(out[i], n+p*(r.Intn(1<<20)-1<<19))
		}
	}
	return out
}

// TestT3AsElements: what differs by multiples of p is the same.
func TestT3AsElements(t *testing.T) {
	r := rand.New(rand.NewSource(6))
	eachSponge(t, func(p int, s *sponge.Sponge) {
		for range 20 {
			n := 1 + r.Intn(12)
			rows := someRows(r, p, n)
			o := opened(t, s, rows, somePlaces(r, n, r.Intn(n+1))...)
			o.Rows, o.Nodes = moved(r, p, o.Rows), moved(r, p, o.Nodes)
			root := moved(r, p, [][]int{rootBy(s, rows)})[0]
			if !tree.Check(s, root, n, o) {
				t.Errorf("p = %d: Check refuses %v with the root %v of %v", p, o, root, rows)
			}
		}
	})
}

// spoilt gives Openings that are no longer what Open gives, by what was done to them.
func spoilt(o api.Opening, n int) map[string]api.Opening {
	out := map[string]api.Opening{}
	change := func(name string, work func(o *api.Opening)) {
		c := copied(o)
		work(&c)
		out[name] = c
	}
	change("a row more", func(o *api.Opening) { o.Rows = append(o.Rows, []int{1}) })
	change("a row more that is empty", func(o *api.Opening) { o.Rows = append(o.Rows, nil) })
	change("a place more", func(o *api.Opening) { o.Places = append(o.Places, n) })
	change("a place and a row more", func(o *api.Opening) { o.Places, o.Rows = append(o.Places, n), append(o.Rows, nil) })
	change("a place below 0", func(o *api.Opening) {
		o.Places, o.Rows = append([]int{-1}, o.Places...), append([][]int{nil}, o.Rows...)
	})
	change("a node more", func(o *api.Opening) { o.Nodes = append(o.Nodes, []int{1, 2, 3, 4}) })
	change("a node more that is empty", func(o *api.Opening) { o.Nodes = append(o.Nodes, nil) })
	for i := range o.Nodes {
		for j := range 4 {
			change(fmt.Sprint("node ", i, " changed at ", j), func(o *api.Opening) { o.Nodes[i][j]++ })
		}
		change(fmt.Sprint("node ", i, " shorter"), func(o *api.Opening) { o.Nodes[i] = o.Nodes[i][:3] })
		change(fmt.Sprint("node ", i, " longer"), func(o *api.Opening) { o.Nodes[i] = append(o.Nodes[i], 0) })
		change(fmt.Sprint("node ", i, " empty"), func(o *api.Opening) { o.Nodes[i] = nil })
		change(fmt.Sprint("no node ", i), func(o *api.Opening) { o.Nodes = slices.Delete(o.Nodes, i, i+1) })
		change(fmt.Sprint("node ", i, " twice"), func(o *api.Opening) { o.Nodes = slices.Insert(o.Nodes, i, o.Nodes[i]) })
	}
	for i := range o.Places {
		change(fmt.Sprint("row ", i, " changed"), func(o *api.Opening) { o.Rows[i][0]++ })
		change(fmt.Sprint("row ", i, " longer by 0"), func(o *api.Opening) { o.Rows[i] = append(o.Rows[i], 0) })
		change(fmt.Sprint("row ", i, " shorter"), func(o *api.Opening) { o.Rows[i] = o.Rows[i][1:] })
		change(fmt.Sprint("no row ", i), func(o *api.Opening) { o.Rows = slices.Delete(o.Rows, i, i+1) })
		change(fmt.Sprint("no place ", i), func(o *api.Opening) { o.Places = slices.Delete(o.Places, i, i+1) })
		change(fmt.Sprint("neither row nor place ", i), func(o *api.Opening) {
			o.Places, o.Rows = slices.Delete(o.Places, i, i+1), slices.Delete(o.Rows, i, i+1)
		})
		change(fmt.Sprint("place ", i, " twice"), func(o *api.Opening) {
			o.Places, o.Rows = slices.Insert(o.Places, i, o.Places[i]), slices.Insert(o.Rows, i, o.Rows[i])
		})
		for _, at := range []int{-1, n, o.Places[i] + 1, o.Places[i] - 1, o.Places[i] + 97, math.MinInt, math.MaxInt, 1 << 32} {
			change(fmt.Sprint("place ", i, " is ", at), func(o *api.Opening) { o.Places[i] = at })
		}
	}
	if len(o.Places) > 1 {
		change("places exchanged", func(o *api.Opening) { slices.Reverse(o.Places) })
		change("rows exchanged", func(o *api.Opening) { slices.Reverse(o.Rows) })
		change("all descending", func(o *api.Opening) { slices.Reverse(o.Places); slices.Reverse(o.Rows) })
	}
	if len(o.Nodes) > 1 {
		change("nodes exchanged", func(o *api.Opening) { slices.Reverse(o.Nodes) })
	}
	return out
}

// unlikeRows: each is of one length, and has its place in it.
func unlikeRows(n int) [][]int {
	out := make([][]int, n)
	for i := range out {
		out[i] = []int{i, 50 - i, 3 * i}
	}
	return out
}

func TestT3RefusesWhatIsSpoilt(t *testing.T) {
	const p = 2147483647
	s := spongeOf(t, p)
	for n := 1; n <= 6; n++ {
		rows := unlikeRows(n)
		root := rootBy(s, rows)
		for bits := range 1 << n {
			o := openingBy(p, s, rows, subset(n, bits))
			for what, c := range spoilt(o, n) {
				if tree.Check(s, root, n, c) {
					t.Errorf("%d rows: Check takes what it should not, %s: %v of %v", n, what, c, o)
				}
			}
		}
	}
}

func TestT3RefusesAnotherRoot(t *testing.T) {
	s := spongeOf(t, 97)
	rows := unlikeRows(5)
	root := rootBy(s, rows)
	for bits := range 1 << 5 {
		o := openingBy(97, s, rows, subset(5, bits))
		for _, other := range [][]int{nil, {}, root[:3], append(slices.Clone(root), 0), slices.Concat(root, root), {0, 0, 0, 0}} {
			if tree.Check(s, other, 5, o) {
				t.Errorf("Check takes %v with the root %v", o, other)
			}
		}
		for i := range root {
			other := slices.Clone(root)
			other[i]++
			if tree.Check(s, other, 5, o) {
				t.Errorf("Check takes %v with the root %v", o, other)
			}
		}
	}
}

func TestT3NumbersOfRowsThatAreNone(t *testing.T) {
	s := spongeOf(t, 97)
	one := [][]int{{1, 2, 3}}
	root := rootBy(s, one)
	for _, n := range []int{0, -1, api.MaxSize + 1, 2 * api.MaxSize, math.MinInt, math.MaxInt, 1 << 32, 1<<32 + 1} {
		for _, o := range []api.Opening{{}, {Nodes: [][]int{root}}, {Places: []int{0}, Rows: one}} {
			if tree.Check(s, root, n, o) {
				t.Errorf("Check takes %v of %d rows", o, n)
			}
		}
	}
	for n := 1; n <= api.MaxSize; n *= 2 {
		if !tree.Check(s, root, n, api.Opening{Nodes: [][]int{root}}) {
			t.Errorf("Check refuses what shows nothing of %d rows", n)
		}
	}
	if tree.Check(s, root, 1, api.Opening{}) {
		t.Errorf("Check takes what has neither a row nor a node")
	}
}

// TestT3AnotherNumberOfRows: what matters of it is which groups there are.
func TestT3AnotherNumberOfRows(t *testing.T) {
	s := spongeOf(t, 2147483647)
	rows := unlikeRows(3)
	root := rootBy(s, rows)
	for n, want := range map[int]bool{1: false, 2: false, 3: true, 4: true, 5: false, 6: false, 8: false} {
		// Of 4 rows, too, a node stands for the row 1, and one for those behind it: nothing tells how many these are.
		if got := tree.Check(s, root, n, opened(t, s, rows, 0)); got != want {
			t.Errorf("Check of an Opening of 3 rows as one of %d: %v", n, got)
		}
		if got := tree.Check(s, root, n, opened(t, s, rows, 2)); got != (n == 3) {
			t.Errorf("Check of an Opening of 3 rows at the last as one of %d: %v", n, got)
		}
	}
}

// twins gives two lists of as many rows, all unlike as elements, with one root: over p = 23 such are found by drawing.
func twins(t *testing.T, r *rand.Rand, s *sponge.Sponge, n int) (a, b [][]int) {
	t.Helper()
	seen := map[string][][]int{}
	for {
		rows := make([][]int, n)
		for i := range rows {
			rows[i] = []int{r.Intn(23), r.Intn(23), r.Intn(23)}
		}
		root := fmt.Sprint(rootBy(s, rows))
		if other := seen[root]; other != nil && allUnlike(other, rows) {
			return other, rows
		}
		seen[root] = rows
	}
}

func allUnlike(a, b [][]int) bool {
	for i := range a {
		if slices.Equal(a[i], b[i]) {
			return false
		}
	}
	return true
}

// collides asks that Collide gives two lists as T4 says.
func collides(t *testing.T, s *sponge.Sponge, root []int, n int, a, b api.Opening) {
	t.Helper()
	x, y, ok := tree.Collide(s, root, n, a, b)
	if !ok || slices.Equal(x, y) || !slices.Equal(s.Hash(x), s.Hash(y)) {
		t.Errorf("Collide of %v and %v: got %v, %v, %v", a, b, x, y, ok)
	}
	for _, n := range slices.Concat(x, y) {
		if n < 0 || n >= s.Field().P() {
			t.Errorf("Collide of %v and %v: %v, %v are not all elements", a, b, x, y)
		}
	}
}

// collidesNot asks that Collide gives nothing.
func collidesNot(t *testing.T, s *sponge.Sponge, root []int, n int, a, b api.Opening) {
	t.Helper()
	if x, y, ok := tree.Collide(s, root, n, a, b); ok || x != nil || y != nil {
		t.Errorf("Collide of %v and %v: got %v, %v, %v, want nothing", a, b, x, y, ok)
	}
}

// TestT4Collide: the twins are of as many rows as a group of the tree, and take its place there.
func TestT4Collide(t *testing.T) {
	r := rand.New(rand.NewSource(7))
	s := spongeOf(t, 23)
	for _, c := range []struct{ n, from, size int }{
		{1, 0, 1}, {2, 0, 1}, {2, 1, 1}, {2, 0, 2}, {3, 2, 1}, {3, 0, 2}, {3, 0, 3}, {7, 4, 3}, {7, 4, 2}, {7, 6, 1},
		{8, 5, 1}, {8, 2, 2}, {8, 6, 2}, {8, 4, 4}, {8, 0, 8}, {11, 0, 8}, {11, 8, 3}, {11, 10, 1},
	} {
		a, b := twins(t, r, s, c.size)
		rows := someRows(r, 23, c.n)
		other := slices.Clone(rows)
		copy(rows[c.from:], a)
		copy(other[c.from:], b)
		root := rootBy(s, rows)
		same(t, rootBy(s, other), root, "the root with a twin in it")
		for range 10 {
			at := c.from + r.Intn(c.size)
			one := opened(t, s, rows, append(somePlaces(r, c.n, r.Intn(c.n+1)), at)...)
			two := opened(t, s, other, append(somePlaces(r, c.n, r.Intn(c.n+1)), at)...)
			collides(t, s, root, c.n, one, two)
			collides(t, s, root, c.n, two, one)
			one.Rows, two.Nodes = moved(r, 23, one.Rows), moved(r, 23, two.Nodes)
			collides(t, s, moved(r, 23, [][]int{root})[0], c.n, one, two)
			collidesNot(t, s, root, c.n, one, one)
		}
	}
}

// TestT4NoPlaceThatBothShow: what is unlike is shown by one alone, or not at all.
func TestT4NoPlaceThatBothShow(t *testing.T) {
	r := rand.New(rand.NewSource(8))
	s := spongeOf(t, 23)
	a, b := twins(t, r, s, 2)
	rows := [][]int{{1}, {2}, a[0], a[1], {3}}
	other := [][]int{{1}, {2}, b[0], b[1], {3}}
	root := rootBy(s, rows)
	for _, c := range [][2][]int{{{2}, {3}}, {{3}, {2}}, {{0, 2}, {0, 3, 4}}, {{0, 1, 2, 4}, {0, 1, 3, 4}}, {{0, 1}, {0, 1, 2, 3, 4}}, {nil, {2, 3}}, {nil, nil}, {{0, 4}, {0, 4}}} {
		collidesNot(t, s, root, 5, opened(t, s, rows, c[0]...), opened(t, s, other, c[1]...))
	}
}

// TestT4OneIsNotTaken: though rows are unlike, Check refuses one.
func TestT4OneIsNotTaken(t *testing.T) {
	r := rand.New(rand.NewSource(9))
	s := spongeOf(t, 23)
	a, b := twins(t, r, s, 1)
	rows, other := [][]int{{1}, a[0], {2}}, [][]int{{1}, b[0], {2}}
	root := rootBy(s, rows)
	one, two := opened(t, s, rows, 0, 1), opened(t, s, other, 1)
	collides(t, s, root, 3, one, two)
	for what, c := range spoilt(one, 3) {
		if tree.Check(s, root, 3, c) { // over so small a field it may be
			t.Logf("%s: %v is taken", what, c)
			continue
		}
		collidesNot(t, s, root, 3, c, two)
		collidesNot(t, s, root, 3, two, c)
	}
	for _, n := range []int{0, 1, 2, -1, 5, api.MaxSize + 1, math.MinInt, math.MaxInt} {
		collidesNot(t, s, root, n, one, two)
	}
	for _, wrong := range [][]int{nil, root[:3], append(slices.Clone(root), 0), {root[0] + 1, root[1], root[2], root[3]}} {
		collidesNot(t, s, wrong, 3, one, two)
	}
	collidesNot(t, s, root, 3, api.Opening{}, api.Opening{})
}

// TestT4OtherNumbersForTheSameElements are not unlike; a row that is longer by 0 is, but then has another root.
func TestT4OtherNumbersForTheSameElements(t *testing.T) {
	r := rand.New(rand.NewSource(10))
	eachSponge(t, func(p int, s *sponge.Sponge) {
		rows := someRows(r, p, 6)
		one := opened(t, s, rows, 1, 4)
		two := copied(one)
		two.Rows, two.Nodes = moved(r, p, two.Rows), moved(r, p, two.Nodes)
		collidesNot(t, s, rootBy(s, rows), 6, one, two)
		two.Rows[0] = append(two.Rows[0], 0)
		collidesNot(t, s, rootBy(s, rows), 6, one, two)
	})
}

// TestP2ListsAreLeftAlone: neither what is handed in nor what stands behind it is written, and the latter is not read.
func TestP2ListsAreLeftAlone(t *testing.T) {
	s := spongeOf(t, 97)
	memory := [][]int{{5, 98, 7, 8}, {1, -2, 3, 4}, {9, 9, 9, 9}, {0, 1, 2, 3}}
	rows := [][]int{memory[0][:2], memory[1][:3], memory[2][:0], memory[3]}
	places := []int{3, 0, 3, 2, 1, 99}
	root := rootOf(t, s, rows[:3])
	o := opened(t, s, rows[:3], places[1], places[3])
	same(t, opened(t, s, rows[:3:3], places[3:5]...), openingBy(97, s, rows[:3], []int{1, 2}), "Open of lists with more behind them")
	same(t, memory, [][]int{{5, 98, 7, 8}, {1, -2, 3, 4}, {9, 9, 9, 9}, {0, 1, 2, 3}}, "the memory of the rows")
	same(t, places, []int{3, 0, 3, 2, 1, 99}, "the memory of the places")
	behind := api.Opening{Places: append(o.Places, 1)[:2], Rows: append(o.Rows, []int{4})[:2], Nodes: append(o.Nodes, []int{4})[:1]}
	behind.Rows[0] = append(behind.Rows[0], 6)[:2]
	behind.Nodes[0][1] -= 97
	before := copied(behind)
	root = append(root, 8)[:4]
	if !tree.Check(s, root, 3, behind) {
		t.Errorf("Check reads what stands behind lists")
	}
	collidesNot(t, s, root, 3, behind, o)
	same(t, behind, before, "an Opening behind Check and Collide")
	same(t, []any{behind.Places[:3], behind.Rows[:3], behind.Nodes[:2], behind.Rows[0][:3], root[:5]},
		[]any{append(before.Places, 1), append(before.Rows, []int{4}), append(before.Nodes, []int{4}), append(before.Rows[0], 6), append(rootBy(s, rows[:3]), 8)}, "what stands behind lists")
}

// TestP2AnswersAreTheCallers: what is written into one, or behind it, is seen nowhere else.
func TestP2AnswersAreTheCallers(t *testing.T) {
	s := spongeOf(t, 97)
	rows := unlikeRows(9)
	want := openingBy(97, s, rows, []int{2, 3, 7})
	lists := func(o api.Opening) [][]int { return slices.Concat([][]int{o.Places}, o.Rows, o.Nodes) }
	for i := range lists(want) {
		o := opened(t, s, rows, 2, 3, 7)
		l := lists(o)[i]
		for j := range l {
			l[j] = -1
		}
		_ = append(l, -1, -1, -1)
		for j, other := range lists(o) {
			if j != i {
				same(t, other, lists(want)[j], "list %d behind what was written into list %d", j, i)
			}
		}
		same(t, rows, unlikeRows(9), "the rows behind what was written into list %d", i)
		same(t, opened(t, s, rows, 2, 3, 7), want, "Open behind what was written into list %d of another answer", i)
	}
	root := rootOf(t, s, rows)
	root[0] = -1
	same(t, rootOf(t, s, rows), rootBy(s, rows), "Root behind an answer that was written into")
}

func TestP2ListsOfCollideAreTheCallers(t *testing.T) {
	r := rand.New(rand.NewSource(11))
	s := spongeOf(t, 23)
	for _, size := range []int{1, 2} {
		a, b := twins(t, r, s, size)
		one, two := opened(t, s, a, 0), opened(t, s, b, 0)
		before := []api.Opening{copied(one), copied(two)}
		root := rootBy(s, a)
		x, y, _ := tree.Collide(s, root, size, one, two)
		behind := slices.Clone(y)
		for i := range x {
			x[i] = -1
		}
		_ = append(x, -1, -1, -1)
		same(t, y, behind, "the second list behind what was written into the first one")
		for i := range y {
			y[i] = -1
		}
		same(t, []api.Opening{one, two}, before, "the Openings behind what was written into an answer")
		same(t, root, rootBy(s, a), "the root behind what was written into an answer")
	}
}

func TestTableOfTheDocument(t *testing.T) {
	s := spongeOf(t, 97)
	rows := [][]int{{1, 2}, {3}, {4, 5, 6}}
	same(t, opened(t, s, rows, 2).Nodes, [][]int{rootOf(t, s, rows[:2])}, "Nodes at place 2")
	same(t, opened(t, s, rows, 0).Nodes, [][]int{rootOf(t, s, rows[1:2]), rootOf(t, s, rows[2:])}, "Nodes at place 0")
	same(t, opened(t, s, rows).Nodes, [][]int{rootOf(t, s, rows)}, "Nodes at no place")
}
