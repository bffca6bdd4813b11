package run

import (
	"errors"
	"fmt"
	"testing"

	"attest/api"
	"attest/source"
	"attest/whole"
)

// TestA2NotTaken: a voucher that Check does not take is not told of. Make makes none such (W7), so it is handed in.
func TestA2NotTaken(t *testing.T) {
	p, _, err := source.Parse("fn main() = 1")
	if err != nil {
		t.Fatal(err)
	}
	s, err := begun(p)
	if err != nil {
		t.Fatal(err)
	}
	s.c = api.Code{Size: 1, List: []api.Ins{{Op: api.OpSet, B: 5}, {Op: api.OpHalt}}}
	v, is, err := whole.Make(s.f, s.c, 4, 9)
	if err != nil {
		t.Fatal(err)
	}
	const taken, not = "outcome 5 tries 0 bytes 869\n", "not taken\n"
	for _, c := range []struct {
		is, n, asked int
		want         string
	}{{is, 4, 9, taken}, {is + 1, 4, 9, not}, {is, 8, 9, not}, {is, 4, 8, not}} {
		if got := s.vouched(v, c.is, c.n, c.asked); got != c.want {
			t.Errorf("a voucher for %d of %d rows, %d asked: got %q, want %q", c.is, c.n, c.asked, got, c.want)
		}
	}
	v.Main[0]++
	if got := s.vouched(v, is, 4, 9); got != not {
		t.Errorf("a voucher that is spoilt: got %q, want %q", got, not)
	}
}

// TestP3Fault: an error is told by its name, though another one be wrapped around it.
func TestP3Fault(t *testing.T) {
	for e := api.ErrPrime; e <= api.ErrBlank; e++ {
		for _, err := range []error{e, fmt.Errorf("outside: %w", e), errors.Join(e)} {
			if got := fault(err); got != "error "+e.Error() {
				t.Errorf("%v: got %q", err, got)
			}
		}
	}
}
