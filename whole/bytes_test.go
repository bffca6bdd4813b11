package whole_test

import (
	"bytes"
	"encoding/binary"
	"math"
	"math/rand"
	"slices"
	"testing"

	"attest/api"
	"attest/plain"
	"attest/whole"
)

// written is Bytes, by the words of W7.
func written(v api.Voucher) (b []byte) {
	number := func(n int) { b = binary.AppendUvarint(b, uint64(n)) }
	list := func(l []int) {
		number(len(l))
		for _, n := range l {
			number(n)
		}
	}
	lists := func(l [][]int) {
		number(len(l))
		for _, one := range l {
			list(one)
		}
	}
	opening := func(o api.Opening) {
		list(o.Places)
		lists(o.Rows)
		lists(o.Nodes)
	}
	list(v.Main)
	list(v.Aux)
	number(v.Tries)
	lists(v.Fold.Roots)
	list(v.Fold.Last)
	number(len(v.Fold.Opens))
	for _, o := range v.Fold.Opens {
		opening(o)
	}
	opening(v.Rows)
	opening(v.Last)
	return b
}

// areBytes tells whether there is a voucher of which these are the Bytes.
func areBytes(b []byte) bool {
	ok := true
	number := func() uint64 {
		n, long := binary.Uvarint(b)
		if long <= 0 || long != len(binary.AppendUvarint(nil, n)) {
			ok = false
			return 0
		}
		b = b[long:]
		return n
	}
	list := func(one func()) {
		for n := number(); ok && n > 0; n-- {
			one()
		}
	}
	numbers := func() { list(func() { number() }) }
	opening := func() {
		numbers()
		list(numbers)
		list(numbers)
	}
	numbers()
	numbers()
	number()
	list(numbers)
	numbers()
	list(opening)
	opening()
	opening()
	return ok && len(b) == 0
}

// reads sees that Read answers what it should of any bytes, and tells whether there is a voucher.
func reads(t *testing.T, b []byte) bool {
	t.Helper()
	was := slices.Clone(b)
	v, err := whole.Read(b)
	if !bytes.Equal(b, was) {
		t.Fatalf("Read writes into %v", was)
	}
	if !areBytes(b) {
		same(t, []any{plain.Told(err), v}, []any{api.ErrSyntax, api.Voucher{}}, "Read of %v", b)
		return false
	}
	if err != nil || !bytes.Equal(whole.Bytes(v), b) || !bytes.Equal(written(v), b) {
		t.Errorf("Read of %v: got %v, error %v", b, v, err)
	}
	return true
}

func TestW7WhatIsMadeIsTakenBehindBytes(t *testing.T) {
	t.Parallel()
	for _, r := range append(runs(t), run{12289, longest(), 512, 3}) {
		asked := 1 + r.n%61
		v := vouched(t, r, asked)
		same(t, whole.Check(fieldOf(t, r.p), r.c, r.outcome, r.n, asked, v), true, "Check of %v", r)
		b := whole.Bytes(v)
		same(t, b, written(v), "Bytes of %v", r)
		again, err := whole.Read(b)
		same(t, []any{again, err}, []any{v, nil}, "Read of Bytes of %v", r)
		same(t, whole.Check(fieldOf(t, r.p), r.c, r.outcome, r.n, asked, again), true, "Check of %v behind Bytes", r)
	}
}

func TestW7EveryAsked(t *testing.T) {
	r := run{97, five(), 4, 5}
	for asked := 1; asked <= 64; asked++ {
		v, err := whole.Read(whole.Bytes(vouched(t, r, asked)))
		same(t, []any{whole.Check(fieldOf(t, 97), r.c, 5, 4, asked, v), err}, []any{true, nil}, "Check with %d asked", asked)
	}
}

func TestW7AnyVoucher(t *testing.T) {
	r := rand.New(rand.NewSource(714))
	for range 5000 {
		v := wildVoucher(r)
		b := whole.Bytes(v)
		if !bytes.Equal(b, written(v)) {
			t.Errorf("Bytes of %v: got %v, want %v", v, b, written(v))
		}
		again, err := whole.Read(b)
		same(t, []any{again, err}, []any{v, nil}, "Read of Bytes of %v", v)
		reads(t, append(slices.Clone(b), 0))
		reads(t, append([]byte{0}, b...))
		reads(t, b[:r.Intn(len(b))])
		for range 5 {
			other := slices.Clone(b)
			other[r.Intn(len(b))] = byte(r.Intn(256))
			reads(t, other)
		}
	}
	same(t, whole.Bytes(api.Voucher{}), make([]byte, 12), "Bytes of an empty voucher")
	empty := api.Voucher{Main: []int{}, Aux: []int{}, Fold: api.Folded{Roots: [][]int{}, Last: []int{}, Opens: []api.Opening{}}}
	same(t, whole.Bytes(empty), make([]byte, 12), "Bytes of a voucher with empty lists")
}

// TestW7TooEarly: no voucher's bytes are the beginning of another one's.
func TestW7TooEarly(t *testing.T) {
	b := whole.Bytes(vouched(t, run{great, five(), 4, 5}, 2))
	for i := range b {
		v, err := whole.Read(b[:i])
		same(t, []any{plain.Told(err), v}, []any{api.ErrSyntax, api.Voucher{}}, "Read of the first %d bytes", i)
	}
	for more := range 256 {
		v, err := whole.Read(append(slices.Clone(b), byte(more)))
		same(t, []any{plain.Told(err), v}, []any{api.ErrSyntax, api.Voucher{}}, "Read with %d behind all", more)
	}
	same(t, reads(t, b), true, "whether all bytes are read")
	same(t, reads(t, nil), false, "whether nothing is read")
}

func TestW7EachByteChanged(t *testing.T) {
	b := whole.Bytes(vouched(t, run{97, five(), 4, 5}, 1))
	met := map[bool]int{}
	for i := range b {
		for _, to := range []byte{0, 1, 2, 4, 127, 128, 129, 255, b[i] + 1, b[i] - 1, b[i] ^ 128} {
			other := slices.Clone(b)
			other[i] = to
			met[reads(t, other)]++
		}
	}
	if met[true] < 100 || met[false] < 100 {
		t.Errorf("bytes that are those of a voucher, or not, were met too seldom: %v", met)
	}
}

func TestW7AnyBytes(t *testing.T) {
	t.Parallel()
	r := rand.New(rand.NewSource(715))
	met := map[bool]int{}
	for range 200000 {
		b := make([]byte, 8+r.Intn(16))
		for i := range b {
			switch r.Intn(20) {
			case 0:
				b[i] = byte(r.Intn(256))
			case 1:
				b[i] = byte(128 + r.Intn(3))
			case 2, 3:
				b[i] = byte(r.Intn(4))
			}
		}
		met[reads(t, b)]++
	}
	if met[true] < 1000 || met[false] < 1000 {
		t.Errorf("bytes that are those of a voucher, or not, were met too seldom: %v", met)
	}
}

func TestW7Numbers(t *testing.T) {
	full := func(ahead int, last ...byte) []byte { return append(bytes.Repeat([]byte{255}, ahead), last...) }
	none := func(ahead int, last ...byte) []byte { return append(bytes.Repeat([]byte{128}, ahead), last...) }
	for _, k := range []struct {
		is int
		as []byte
	}{
		{0, []byte{0}}, {1, []byte{1}}, {127, []byte{127}}, {128, []byte{128, 1}}, {129, []byte{129, 1}}, {255, []byte{255, 1}},
		{16383, []byte{255, 127}}, {16384, []byte{128, 128, 1}}, {math.MaxInt, full(8, 127)}, {-1, full(9, 1)}, {math.MinInt, none(9, 1)},
		{math.MinInt + 1, append([]byte{129}, none(8, 1)...)}, {-2, append([]byte{254}, full(8, 1)...)}, {1 << 62, none(8, 64)},
	} {
		want := slices.Concat([]byte{0, 0}, k.as, make([]byte, 9))
		same(t, whole.Bytes(api.Voucher{Tries: k.is}), want, "Bytes with %d", k.is)
		v, err := whole.Read(want)
		same(t, []any{v, err}, []any{api.Voucher{Tries: k.is}, nil}, "Read of %d", k.is)
	}
	for _, as := range [][]byte{
		{128, 0}, {129, 0}, {255, 0}, {128, 128, 0}, none(8, 0), none(9, 0), none(10, 0), full(9, 0), // more bytes than they need
		full(9, 2), full(9, 3), full(9, 127), none(9, 2), none(9, 64), // more than 64 bits
		full(10, 1), full(10, 0), none(10, 1), full(9, 129, 1), full(9, 129, 0), none(20, 1), full(200),
	} {
		b := slices.Concat([]byte{0, 0}, as, make([]byte, 9))
		v, err := whole.Read(b)
		same(t, []any{plain.Told(err), v}, []any{api.ErrSyntax, api.Voucher{}}, "Read of the number %v", as)
		same(t, areBytes(b), false, "whether there is a number %v", as)
	}
}

// TestW7Counts: a list that is said to have more than there are bytes for is none, however many; nothing is done for it.
func TestW7Counts(t *testing.T) {
	for _, count := range []int{13, 100, 1 << 20, 1 << 31, 1 << 40, 1 << 62, math.MaxInt, math.MinInt, -1, -12} {
		for ahead := range 12 {
			b := slices.Concat(make([]byte, ahead), binary.AppendUvarint(nil, uint64(count)), make([]byte, 12))
			same(t, reads(t, b), false, "whether %d behind %d zeros is read, with twelve behind it", count, ahead)
			b = b[:len(b)-1-ahead]
			same(t, reads(t, b), ahead == 2, "whether %d behind %d zeros is read, with as many as a number takes behind it", count, ahead)
		}
	}
	for count := range 40 {
		b := append([]byte{byte(count)}, make([]byte, 30)...)
		same(t, reads(t, b), count == 19, "whether %d numbers in 30 bytes are read", count)
		b = append([]byte{0, 0, 0, byte(count)}, make([]byte, 30)...)
		same(t, reads(t, b), count == 22, "whether %d lists in 30 bytes are read", count)
		b = append([]byte{0, 0, 0, 0, 0, byte(count)}, make([]byte, 30)...)
		same(t, reads(t, b), count == 8, "whether %d Openings in 30 bytes are read", count)
	}
}

func TestW7ManyBytes(t *testing.T) {
	const many = 1 << 21
	list := make([]int, many)
	for i := range list {
		list[i] = i * i
	}
	v := api.Voucher{Main: list, Rows: api.Opening{Rows: make([][]int, many)}}
	b := whole.Bytes(v)
	again, err := whole.Read(b)
	if err != nil || !slices.Equal(again.Main, list) || len(again.Rows.Rows) != many || !bytes.Equal(whole.Bytes(again), b) {
		t.Errorf("many bytes are not read as they were written: %v", err)
	}
	if _, err = whole.Read(b[:len(b)-1]); plain.Told(err) != api.ErrSyntax {
		t.Errorf("many bytes, one too few, are read: %v", err)
	}
}
