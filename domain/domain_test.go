package domain_test

import (
	"fmt"
	"math"
	"math/big"
	"math/rand"
	"slices"
	"testing"

	"attest/api"
	"attest/domain"
	"attest/field"
	"attest/plain"
	"attest/poly"
)

// primes: p - 1 is divided by 2 once, or many times, or is a power of 2.
var primes = []int{3, 5, 7, 13, 17, 97, 257, 12289, 65537, 998244353, 2013265921, 2147483647}

func fieldOf(t *testing.T, p int) *field.Field {
	t.Helper()
	f, err := field.New(p)
	if err != nil || f == nil {
		t.Fatalf("field.New(%d): %v", p, err)
	}
	return f
}

func domainOf(t *testing.T, p, size, shift int) *domain.Domain {
	t.Helper()
	d, err := domain.New(fieldOf(t, p), size, shift)
	if err != nil || d == nil {
		t.Fatalf("New of p = %d, size %d, shift %d: %v", p, size, shift, err)
	}
	return d
}

// shifts are those at the edges, and such as are no elements.
func shifts(p int) []int {
	out := []int{1, 2, p - 1, p + 1, -1, 1 - p, p*p + 1, 5}
	for _, n := range []int{math.MaxInt, math.MinInt, math.MaxInt32, 3} {
		if n%p != 0 {
			out = append(out, n)
		}
	}
	return slices.DeleteFunc(out, func(n int) bool { return n%p == 0 })
}

// eachDomain goes through those of at most so many points.
func eachDomain(t *testing.T, most int, work func(p, size, shift int, d *domain.Domain)) {
	t.Helper()
	for _, p := range primes {
		for size := 1; size <= most && (p-1)%size == 0; size *= 2 {
			for _, shift := range shifts(p) {
				work(p, size, shift, domainOf(t, p, size, shift))
			}
		}
	}
}

func element(n *big.Int, p int) int { return int(new(big.Int).Mod(n, big.NewInt(int64(p))).Int64()) }

// pointAt is reckoned by big numbers; the place is from 0 on.
func pointAt(t *testing.T, p, size, shift, place int) int {
	t.Helper()
	power := new(big.Int).Exp(big.NewInt(int64(fieldOf(t, p).Root(size))), big.NewInt(int64(place)), nil)
	return element(power.Mul(power, big.NewInt(int64(shift))), p)
}

// valueAt is reckoned by big numbers.
func valueAt(a []int, x, p int) int {
	sum, power := new(big.Int), big.NewInt(1)
	for _, n := range a {
		sum.Add(sum, new(big.Int).Mul(power, big.NewInt(int64(n))))
		power.Mul(power, big.NewInt(int64(x)))
		power.Mod(power, big.NewInt(int64(p)))
	}
	return element(sum, p)
}

func valuesOf(a, points []int, p int) []int {
	out := make([]int, len(points))
	for i, x := range points {
		out[i] = valueAt(a, x, p)
	}
	return out
}

func same(t *testing.T, got, want []int, what string, args ...any) {
	t.Helper()
	if !slices.Equal(got, want) {
		t.Errorf("%s: got %v, want %v", fmt.Sprintf(what, args...), got, want)
	}
}

// someList draws one of a length; half of its numbers are no elements, and some are 0.
func someList(r *rand.Rand, p, length int) []int {
	out := make([]int, length)
	for i := range out {
		switch r.Intn(4) {
		case 0:
			out[i] = int(r.Uint64())
		case 1:
			out[i] = p * (r.Intn(5) - 2)
		default:
			out[i] = r.Intn(p)
		}
	}
	return out
}

// lists are polynomials at the edges: empty, of zeros, shorter and longer than a size, ints at the ends.
func lists(r *rand.Rand, p, size int) [][]int {
	behind := make([]int, 3*size+1)
	behind[3*size] = p - 1
	return [][]int{
		nil, {}, {0}, {p, -p, 0}, {1}, {p - 1}, {0, 1}, {1, 1, 0, p},
		{math.MaxInt, math.MinInt, math.MaxInt - 1, math.MinInt + 1}, {math.MinInt}, {math.MaxInt, 0}, behind,
		someList(r, p, size-1), someList(r, p, size), someList(r, p, size+1), someList(r, p, 2*size), someList(r, p, 5*size+3),
	}
}

func TestD1PointsAreThePowersTimesShift(t *testing.T) {
	eachDomain(t, 64, func(p, size, shift int, d *domain.Domain) {
		var want []int
		for i := range size {
			want = append(want, pointAt(t, p, size, shift, i))
		}
		points := d.Points()
		same(t, points, want, "p = %d, size %d, shift %d: Points", p, size, shift)
		slices.Sort(points)
		if len(slices.Compact(points)) != size {
			t.Errorf("p = %d, size %d, shift %d: two points are the same", p, size, shift)
		}
	})
}

func TestD1PointAtAnyPlace(t *testing.T) {
	eachDomain(t, 32, func(p, size, shift int, d *domain.Domain) {
		places := []int{math.MinInt, math.MinInt + 1, math.MaxInt, math.MaxInt - 1, math.MinInt32, math.MaxInt32, p, p - 1, -p}
		for i := -2*size - 1; i <= 2*size+1; i++ {
			places = append(places, i)
		}
		points := d.Points()
		for _, i := range places {
			want := points[element(big.NewInt(int64(i)), size)]
			if got := d.Point(i); got != want {
				t.Errorf("p = %d, size %d, shift %d: Point(%d): got %d, want %d", p, size, shift, i, got, want)
			}
		}
	})
}

func TestD1FieldAndSizeAreWhatItWasMadeOf(t *testing.T) {
	for _, p := range primes {
		f := fieldOf(t, p)
		for size := 1; size <= api.MaxSize && (p-1)%size == 0; size *= 2 {
			d, err := domain.New(f, size, 1)
			if err != nil || d.Field() != f || d.Field().P() != p || d.Size() != size {
				t.Errorf("p = %d, size %d: the domain is not of these: %v", p, size, err)
			}
		}
	}
}

// TestD1MethodsOfTheField: a domain reckons as its field does.
func TestD1MethodsOfTheField(t *testing.T) {
	d := domainOf(t, 17, 4, 3)
	if d.P() != 17 || d.Mul(9, -1) != 8 || d.Inv(3) != 6 || d.Add(16, 3) != 2 || d.Root(4) != 13 {
		t.Errorf("a domain over 17 reckons otherwise than its field")
	}
}

func TestD1NewRefuses(t *testing.T) {
	cases := []struct {
		p, size, shift int
		want           api.Errno
	}{
		{17, 0, 1, api.ErrSize},
		{17, -1, 1, api.ErrSize},
		{17, -2, 1, api.ErrSize},
		{17, -16, 1, api.ErrSize},
		{17, math.MinInt, 1, api.ErrSize}, // its bits are those of a power of 2
		{17, math.MaxInt, 1, api.ErrSize},
		{17, 3, 1, api.ErrSize},
		{17, 17, 1, api.ErrSize},
		{17, 32, 1, api.ErrSize},
		{17, 1 << 62, 1, api.ErrSize},
		{7, 3, 1, api.ErrSize}, // these divide p - 1, but are no powers of 2
		{97, 6, 1, api.ErrSize},
		{97, 96, 1, api.ErrSize},
		{97, 64, 1, api.ErrSize},
		{2147483647, 4, 1, api.ErrSize},
		{2013265921, 2 * api.MaxSize, 1, api.ErrSize}, // it divides p - 1, but is above MaxSize
		{998244353, 4 * api.MaxSize, 1, api.ErrSize},
		{17, 3, 0, api.ErrSize}, // both are wrong: that named first
		{17, 0, 0, api.ErrSize},
		{17, 32, 34, api.ErrSize},
		{17, 4, 0, api.ErrRange},
		{17, 1, 17, api.ErrRange},
		{17, 16, -34, api.ErrRange},
		{5, 4, 5 * (math.MaxInt / 5), api.ErrRange},
		{5, 4, 5 * (math.MinInt / 5), api.ErrRange},
		{3, 2, 3, api.ErrRange},
		{17, 1, 1, api.OK},
		{17, 16, 18, api.OK},
		{97, 32, -1, api.OK},
		{3, 2, math.MinInt, api.OK},
		{2147483647, 2, 1, api.OK},
		{65537, api.MaxSize, 1, api.OK},
		{2013265921, api.MaxSize, 31, api.OK},
	}
	for _, c := range cases {
		d, err := domain.New(fieldOf(t, c.p), c.size, c.shift)
		if plain.Told(err) != c.want || (d == nil) != (err != nil) {
			t.Errorf("New of p = %d, size %d, shift %d: got %v, %v, want %v", c.p, c.size, c.shift, d, err, c.want)
		}
	}
}

func TestD2ValuesAreWhatItIsAtThePoints(t *testing.T) {
	r := rand.New(rand.NewSource(3))
	eachDomain(t, 32, func(p, size, shift int, d *domain.Domain) {
		points := d.Points()
		for _, a := range lists(r, p, size) {
			same(t, d.Values(a), valuesOf(a, points, p), "p = %d, size %d, shift %d: Values of %v", p, size, shift, a)
		}
	})
}

func TestD2CoefficientsFindItAgain(t *testing.T) {
	r := rand.New(rand.NewSource(4))
	eachDomain(t, 32, func(p, size, shift int, d *domain.Domain) {
		for _, a := range lists(r, p, size) {
			if poly.Degree(d.Field(), a) >= size {
				continue
			}
			got, err := d.Coefficients(valuesOf(a, d.Points(), p))
			if err != nil {
				t.Errorf("p = %d, size %d, shift %d: Coefficients of the values of %v: %v", p, size, shift, a, err)
			}
			same(t, got, poly.Trim(d.Field(), a), "p = %d, size %d, shift %d: Coefficients of the values of %v", p, size, shift, a)
		}
	})
}

func TestD2CoefficientsHaveTheValues(t *testing.T) {
	r := rand.New(rand.NewSource(5))
	eachDomain(t, 32, func(p, size, shift int, d *domain.Domain) {
		for range 4 {
			values := someList(r, p, size)
			got, err := d.Coefficients(values)
			want, _ := poly.Fit(d.Field(), d.Points(), values)
			if err != nil {
				t.Errorf("p = %d, size %d, shift %d: Coefficients of %v: %v", p, size, shift, values, err)
			}
			same(t, got, want, "p = %d, size %d, shift %d: Coefficients of %v", p, size, shift, values)
		}
	})
}

// words gives all lists of a length over a small field.
func words(p, length int) [][]int {
	out := [][]int{{}}
	for range length {
		var longer [][]int
		for _, a := range out {
			for n := range p {
				longer = append(longer, append(slices.Clone(a), n))
			}
		}
		out = longer
	}
	return out
}

// TestD2AllWordsOfASmallField: each has one polynomial, and no two have the same.
func TestD2AllWordsOfASmallField(t *testing.T) {
	for _, size := range []int{1, 2, 4} {
		d := domainOf(t, 5, size, 3)
		seen := map[string]int{}
		for _, values := range words(5, size) {
			a, err := d.Coefficients(values)
			if err != nil || len(a) > size || len(a) > 0 && a[len(a)-1] == 0 {
				t.Errorf("Coefficients of %v: got %v, %v", values, a, err)
			}
			same(t, d.Values(a), values, "Values of %v, of the values %v", a, values)
			seen[fmt.Sprint(a)]++
		}
		if len(seen) != len(words(5, size)) {
			t.Errorf("size %d: %d polynomials of %d words", size, len(seen), len(words(5, size)))
		}
	}
}

func TestD2CoefficientsRefuses(t *testing.T) {
	for _, size := range []int{1, 2, 4, 16} {
		d := domainOf(t, 17, size, 3)
		for _, count := range []int{0, 1, 2, size - 1, size, size + 1, 2 * size, 4*size + 1} {
			want := api.ErrSize
			if count == size {
				want = api.OK
			}
			a, err := d.Coefficients(make([]int, count))
			if plain.Told(err) != want || len(a) > 0 || err != nil && a != nil {
				t.Errorf("size %d: Coefficients of %d zeros: got %v, %v, want %v", size, count, a, err, want)
			}
		}
	}
}

// TestD2TheGreatestSize is asked at some places alone: all of them by big numbers would take too long.
func TestD2TheGreatestSize(t *testing.T) {
	r := rand.New(rand.NewSource(6))
	for _, p := range []int{65537, 2013265921} {
		d := domainOf(t, p, api.MaxSize, 7)
		a := poly.Trim(d.Field(), someList(r, p, api.MaxSize))
		values := d.Values(a)
		for _, i := range []int{0, 1, 2, api.MaxSize / 2, api.MaxSize - 1, r.Intn(api.MaxSize)} {
			if want := valueAt(a, pointAt(t, p, api.MaxSize, 7, i), p); values[i] != want {
				t.Errorf("p = %d: at place %d it is %d, want %d", p, i, values[i], want)
			}
		}
		got, err := d.Coefficients(values)
		if err != nil || !slices.Equal(got, a) {
			t.Errorf("p = %d: Coefficients does not find it again: %v", p, err)
		}
	}
}

func TestD3HalfIsTheDomainOfTheSquares(t *testing.T) {
	eachDomain(t, 64, func(p, size, shift int, d *domain.Domain) {
		if size == 1 {
			return
		}
		half, err := d.Half()
		if err != nil || half.Size() != size/2 || half.Field() != d.Field() {
			t.Fatalf("p = %d, size %d, shift %d: Half is of another size or field: %v", p, size, shift, err)
		}
		for i := range size {
			x, square := d.Point(i), half.Point(i)
			if d.Mul(x, x) != square || d.Point(i+size/2) != d.Neg(x) {
				t.Errorf("p = %d, size %d, shift %d: place %d: %d has the square %d, and %d stands half the size further",
					p, size, shift, i, x, square, d.Point(i+size/2))
			}
		}
	})
}

// TestD3HalfIsAsIfMadeByNew: down to one point, in whatever is asked.
func TestD3HalfIsAsIfMadeByNew(t *testing.T) {
	r := rand.New(rand.NewSource(7))
	eachDomain(t, 32, func(p, size, shift int, d *domain.Domain) {
		for d.Size() > 1 {
			first := d.Point(0)
			half, err := d.Half()
			if err != nil {
				t.Fatalf("p = %d, size %d: Half: %v", p, d.Size(), err)
			}
			made := domainOf(t, p, d.Size()/2, d.Mul(first, first))
			values, a := someList(r, p, made.Size()), someList(r, p, 2*size)
			same(t, half.Points(), made.Points(), "p = %d, size %d, shift %d: Points of Half", p, d.Size(), first)
			same(t, half.Values(a), made.Values(a), "p = %d, size %d, shift %d: Values of Half", p, d.Size(), first)
			got, err := half.Coefficients(values)
			want, _ := made.Coefficients(values)
			if err != nil {
				t.Errorf("p = %d, size %d, shift %d: Coefficients of Half: %v", p, d.Size(), first, err)
			}
			same(t, got, want, "p = %d, size %d, shift %d: Coefficients of Half", p, d.Size(), first)
			d = half
		}
		half, err := d.Half()
		if half != nil || plain.Told(err) != api.ErrSize {
			t.Errorf("p = %d, shift %d: Half of one point: got %v, %v, want ErrSize", p, shift, half, err)
		}
	})
}

func TestD3HalfLeavesTheDomainAsItIs(t *testing.T) {
	d := domainOf(t, 97, 8, 5)
	before := d.Points()
	if _, err := d.Half(); err != nil {
		t.Fatal(err)
	}
	same(t, d.Points(), before, "Points behind Half")
}

func TestD4ValuesOfAProduct(t *testing.T) {
	r := rand.New(rand.NewSource(8))
	eachDomain(t, 32, func(p, size, shift int, d *domain.Domain) {
		a, b := someList(r, p, r.Intn(2*size+1)), someList(r, p, r.Intn(2*size+1))
		got, x, y := d.Values(poly.Mul(d.Field(), a, b)), d.Values(a), d.Values(b)
		for i := range got {
			if got[i] != d.Mul(x[i], y[i]) {
				t.Errorf("p = %d, size %d, shift %d: %v times %v is %d at place %d, want %d times %d", p, size, shift, a, b, got[i], i, x[i], y[i])
			}
		}
	})
}

func TestD4SumOfTheValues(t *testing.T) {
	r := rand.New(rand.NewSource(9))
	eachDomain(t, 32, func(p, size, shift int, d *domain.Domain) {
		for _, a := range lists(r, p, size) {
			if poly.Degree(d.Field(), a) >= size {
				continue
			}
			sum, want := 0, 0
			for _, n := range d.Values(a) {
				sum = d.Add(sum, n)
			}
			if len(a) > 0 {
				want = d.Mul(size, a[0])
			}
			if sum != want {
				t.Errorf("p = %d, size %d, shift %d: the values of %v sum up to %d, want %d", p, size, shift, a, sum, want)
			}
		}
	})
}

// TestD2ListsAreLeftAlone: what is handed in, and what stands behind it, is neither written nor read nor kept.
func TestD2ListsAreLeftAlone(t *testing.T) {
	d := domainOf(t, 17, 4, 3)
	memory := []int{20, -1, 17, 3, 99, 98, 97, 96}
	handed := memory[:4]
	values := d.Values(handed)
	a, err := d.Coefficients(handed)
	if err != nil {
		t.Fatal(err)
	}
	same(t, memory, []int{20, -1, 17, 3, 99, 98, 97, 96}, "what was handed in")
	same(t, values, valuesOf([]int{20, -1, 17, 3}, d.Points(), 17), "Values of a list with more behind it")
	wantValues, wantA := slices.Clone(values), slices.Clone(a)
	for i := range memory {
		memory[i] = 5
	}
	same(t, values, wantValues, "Values, when what was handed in is written over")
	same(t, a, wantA, "Coefficients, when what was handed in is written over")
}

// TestD1AnswersAreTheCallers: whatever is done to one, and behind it, changes no other.
func TestD1AnswersAreTheCallers(t *testing.T) {
	d := domainOf(t, 17, 4, 3)
	answers := func() [][]int {
		a, _ := d.Coefficients([]int{1, 1, 1, 1})
		return [][]int{d.Points(), d.Values([]int{1, 1}), a}
	}
	first, want := answers(), answers()
	second := answers()
	for _, l := range first {
		l = l[:cap(l)]
		for i := range l {
			l[i] = -7
		}
	}
	third := answers()
	for i := range want {
		same(t, second[i], want[i], "answer %d, made ahead", i)
		same(t, third[i], want[i], "answer %d, made behind", i)
	}
}

func TestTableOfTheDocument(t *testing.T) {
	d := domainOf(t, 17, 4, 3)
	same(t, d.Points(), []int{3, 5, 14, 12}, "Points")
	same(t, d.Values([]int{1, 1}), []int{4, 6, 15, 13}, "Values of 1 1")
	a, err := d.Coefficients([]int{1, 2, 3, 4})
	if err != nil {
		t.Fatal(err)
	}
	// The table has 11 3 10 10, which is 6 at the first point; D2 asks for what is 1 there.
	same(t, a, []int{11, 2, 16, 1}, "Coefficients of 1 2 3 4")
	half, err := d.Half()
	if err != nil {
		t.Fatal(err)
	}
	same(t, half.Points(), []int{9, 8}, "Points of Half")
}
