package whole_test

import (
	"slices"
	"testing"

	"attest/api"
	"attest/rules"
	"attest/whole"
)

// roomy gives a list with something behind its length.
func roomy(l []int) []int { return append(slices.Clone(l), 55, 56)[:len(l)] }

func roomyRows(rows [][]int) [][]int {
	out := make([][]int, len(rows), len(rows)+1)
	for i := range rows {
		out[i] = roomy(rows[i])
	}
	return out
}

// isRoomy sees that what stands behind a list is as it was.
func isRoomy(t *testing.T, l []int, what string) {
	t.Helper()
	same(t, l[:len(l)+2][len(l):], []int{55, 56}, "what stands behind %s", what)
}

func TestP2ComposeAndBatch(t *testing.T) {
	k := run{97, quotient(), 4, 17}
	f, table := fieldOf(t, 97), k.table(t)
	c := k.c
	list := append(slices.Clone(c.List), api.Ins{Op: 77})
	c.List = list[: len(list)-1 : len(list)]
	rows, z := roomyRows(table), roomy([]int{1, 98, -3, 4})
	got := composed(t, f, c, 17, rows, z, 3, 4, 5)
	want := slices.Clone(got)
	same(t, []any{rows, z, list[4]}, []any{table, []int{1, 98, -3, 4}, api.Ins{Op: 77}}, "what was handed to Compose")
	for _, row := range rows {
		isRoomy(t, row, "a row")
	}
	isRoomy(t, z, "z")
	d := domainOf(t, 97, 32, f.Generator())
	first, words := roomy(got), roomyRows([][]int{got, upTo(32)})
	batch := batched(t, d, first, words, 9)
	wantBatch := slices.Clone(batch)
	same(t, []any{first, words}, []any{got, [][]int{got, upTo(32)}}, "what was handed to Batch")
	isRoomy(t, first, "first")
	isRoomy(t, words[1], "a word")
	for _, l := range [][]int{got, batch} {
		for i := range l[:cap(l)] {
			l[:cap(l)][i] = -1
		}
	}
	same(t, composed(t, f, c, 17, rows, z, 3, 4, 5), want, "Compose once more")
	same(t, batched(t, d, first, words, 9), wantBatch, "Batch once more")
}

// memories are all lists of numbers of a voucher.
func memories(v api.Voucher) (out [][]int) {
	opening := func(o api.Opening) {
		out = append(append(append(out, o.Places), o.Rows...), o.Nodes...)
	}
	out = append(append(out, v.Main, v.Aux, v.Fold.Last), v.Fold.Roots...)
	for _, o := range v.Fold.Opens {
		opening(o)
	}
	opening(v.Rows)
	opening(v.Last)
	return out
}

func TestP2VouchersShareNothing(t *testing.T) {
	r := run{97, quotient(), 4, 17}
	v := vouched(t, r, 3)
	first := copied(v)
	read, err := whole.Read(whole.Bytes(v))
	same(t, err, nil, "Read")
	for _, one := range []api.Voucher{v, read} {
		for i, l := range memories(one) {
			l = l[:cap(l)]
			for j := range l {
				l[j] = -1
			}
			same(t, memories(one)[i+1:], memories(first)[i+1:], "what stands behind list %d, which was written into", i)
		}
	}
	same(t, vouched(t, r, 3), first, "Make once more")
}

func TestP2CheckAndBytesWriteNothing(t *testing.T) {
	r := run{97, quotient(), 4, 17}
	v := vouched(t, r, 3)
	first := copied(v)
	v.Main, v.Aux, v.Fold.Last, v.Rows.Places = roomy(v.Main), roomy(v.Aux), roomy(v.Fold.Last), roomy(v.Rows.Places)
	v.Rows.Rows, v.Last.Rows, v.Rows.Nodes = roomyRows(v.Rows.Rows), roomyRows(v.Last.Rows), roomyRows(v.Rows.Nodes)
	v.Fold.Opens[0].Rows = roomyRows(v.Fold.Opens[0].Rows)
	for range 2 {
		same(t, whole.Check(fieldOf(t, 97), r.c, 17, 4, 3, v), true, "Check")
		b := whole.Bytes(v)
		same(t, b, written(first), "Bytes")
		same(t, v, first, "the voucher behind Check and Bytes")
		for i := range b[:cap(b)] {
			b[:cap(b)][i] = 255
		}
	}
	for _, l := range slices.Concat([][]int{v.Main, v.Aux, v.Fold.Last, v.Rows.Places}, v.Rows.Rows, v.Last.Rows, v.Rows.Nodes, v.Fold.Opens[0].Rows) {
		isRoomy(t, l, "a list of the voucher")
	}
}

func TestP2ReadKeepsNothing(t *testing.T) {
	v := vouched(t, run{97, quotient(), 4, 17}, 3)
	b := append(whole.Bytes(v), 9)
	b = b[:len(b)-1]
	read, err := whole.Read(b)
	same(t, []any{read, err, b[:len(b)+1][len(b)]}, []any{v, nil, 9}, "Read")
	for i := range b {
		b[i] = 255
	}
	same(t, read, v, "what was read, behind other bytes")
}

// TestP2MakeWritesNothing: the code stays as it is, and what stands behind it.
func TestP2MakeWritesNothing(t *testing.T) {
	c := quotient()
	list := append(slices.Clone(c.List), api.Ins{Op: 77})
	c.List = list[: len(list)-1 : len(list)]
	v, _, err := whole.Make(fieldOf(t, 97), c, 4, 3)
	same(t, []any{err, whole.Check(fieldOf(t, 97), c, 17, 4, 3, v)}, []any{nil, true}, "Make and Check")
	same(t, list, append(quotient().List, api.Ins{Op: 77}), "the instructions behind Make and Check")
	same(t, rules.Width(c), 24, "Width")
}
