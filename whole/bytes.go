package whole

import "attest/api"

const (
	bitsOfByte = 7               // that a byte has of a number
	more       = 1 << bitsOfByte // is added to a byte behind which the number goes on
	lastShift  = 63              // how many bits stand ahead of the last byte that a number may have
)

// Bytes writes a voucher.
func Bytes(v api.Voucher) []byte {
	b := appendNumbers(nil, v.Main)
	b = appendNumbers(b, v.Aux)
	b = appendNumber(b, v.Tries)
	b = appendList(b, v.Fold.Roots, appendNumbers)
	b = appendNumbers(b, v.Fold.Last)
	b = appendList(b, v.Fold.Opens, appendOpening)
	b = appendOpening(b, v.Rows)
	return appendOpening(b, v.Last)
}

// appendList writes a list of anything, by what writes one of it.
func appendList[T any](b []byte, l []T, appendOne func([]byte, T) []byte) []byte {
	b = appendNumber(b, len(l))
	for _, one := range l {
		b = appendOne(b, one)
	}
	return b
}

func appendNumbers(b []byte, l []int) []byte { return appendList(b, l, appendNumber) }

func appendNumber(b []byte, n int) []byte {
	rest := uint64(n)
	for ; rest >= more; rest >>= bitsOfByte {
		b = append(b, byte(rest%more)+more)
	}
	return append(b, byte(rest))
}

func appendOpening(b []byte, o api.Opening) []byte {
	b = appendNumbers(b, o.Places)
	b = appendList(b, o.Rows, appendNumbers)
	return appendList(b, o.Nodes, appendNumbers)
}

// noVoucher is what reading ends with by a panic, where bytes are none of a voucher.
type noVoucher struct{}

// Read reads a voucher.
func Read(b []byte) (v api.Voucher, err error) {
	defer func() {
		switch why := recover().(type) {
		case nil:
		case noVoucher:
			v, err = api.Voucher{}, api.ErrSyntax
		default:
			panic(why) // no fault of the bytes: one of this package, which is not to pass for one
		}
	}()
	r := &reader{b}
	v = r.voucher()
	must(len(r.rest) == 0)
	return v, nil
}

// must says what has to be so, if bytes are those of a voucher.
func must(so bool) {
	if !so {
		panic(noVoucher{})
	}
}

// reader goes through bytes, of which it has some still ahead.
type reader struct{ rest []byte }

// voucher reads all parts of one, in order.
func (r *reader) voucher() (v api.Voucher) {
	v.Main = r.numbers()
	v.Aux = r.numbers()
	v.Tries = r.number()
	v.Fold.Roots = readList(r, r.numbers)
	v.Fold.Last = r.numbers()
	v.Fold.Opens = readList(r, r.opening)
	v.Rows = r.opening()
	v.Last = r.opening()
	return v
}

// readList reads a list of anything, by what reads one of it.
func readList[T any](r *reader, readOne func() T) []T {
	n := r.number()
	// One of anything takes a byte at least; so no more are read than there are, whatever is said.
	must(n >= 0 && n <= len(r.rest))
	var l []T
	for range n {
		l = append(l, readOne())
	}
	return l
}

func (r *reader) numbers() []int { return readList(r, r.number) }

func (r *reader) opening() (o api.Opening) {
	o.Places = r.numbers()
	o.Rows = readList(r, r.numbers)
	o.Nodes = readList(r, r.numbers)
	return o
}

func (r *reader) number() int {
	var n uint64
	for shift := 0; ; shift += bitsOfByte {
		b := r.one()
		// Behind 63 bits there is room for one more, and for no further byte.
		must(shift < lastShift || b <= 1)
		n |= uint64(b%more) << shift
		if b < more {
			must(b > 0 || shift == 0) // a last byte of 0 is one more than it needs
			return int(n)
		}
	}
}

// one reads a byte.
func (r *reader) one() byte {
	must(len(r.rest) > 0)
	b := r.rest[0]
	r.rest = r.rest[1:]
	return b
}
