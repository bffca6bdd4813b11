package run_test

import (
	"fmt"
	"math/rand"
	"strings"
	"testing"

	"attest/run"
)

// dice makes sessions of any kind.
type dice struct{ *rand.Rand }

func newDice(seed int) dice { return dice{rand.New(rand.NewSource(int64(seed)))} }

func (d dice) one(of ...string) string { return of[d.Intn(len(of))] }

// program is one that is right.
func (d dice) program() string {
	return d.one(
		factorial,
		"fn main() = 7",
		"fn main(a, b) = let q = a / b; need q * b == a; q + a",
		"fn main(n)=g(n,0,1) fn g(n,x,y)=if n==0 then x else g(n-1,y,x+y)",
		"# even\n\nfn main(n) = if n then even(n - 1) else 0\nfn even(n) = if n then main(n - 1) else 1\n",
	)
}

// number is one, or nearly one.
func (d dice) number() string {
	return d.one("0", "1", "2", "3", "4", "8", "16", "97", "-1", "-96", "100", "400", "1000", "16384", "16385", "999999999", "-999999999",
		fmt.Sprint(d.Intn(20)), fmt.Sprint(d.Intn(20)), fmt.Sprint(d.Intn(20)-10))
}

// spoilt is a number that is none.
func (d dice) spoilt() string {
	return d.one("", "-", "-0", "00", "01", "-01", "+1", "1.", "0x1", "1e1", "1_0", "1000000000", "-1000000000", "x", "--1", "1-", "٣", "1\t", "½", "\xff")
}

// code is a line that sets some.
func (d dice) code() string {
	if d.Intn(2) == 0 {
		return d.one(
			"code 1 set 0 5 0 halt 0 0 0",
			"code 3 set 0 12 0 set 1 -5 0 div 0 1 2 halt 2 0 0",
			"code 2 set 0 4 0 pass 0 0 0 call 5 2 0 take 1 0 0 halt 1 0 0 add 0 0 1 back 1 0 0",
			"code 4 set 0 2 0 set 1 2 0 same 0 1 2 zero 2 5 0 must 0 1 0 halt 2 0 0",
			"code 0 jump 0 0 0",
			"code 0", "code -1 halt 0 0 0", "code 65537 halt -1 0 0", "code 65536 halt -1 0 0",
		)
	}
	line := "code " + d.number()
	for range d.Intn(8) {
		line += " " + d.one(opOrder...)
		for range 3 {
			line += " " + fmt.Sprint(d.Intn(6)-1)
		}
	}
	return line
}

// line is one, right or wrong.
func (d dice) line() string {
	switch d.Intn(12) {
	case 0:
		return "show"
	case 1:
		return "weigh"
	case 2:
		return "field " + d.one("97", "97", "193", "12289", "12289", "65537", "3", "2", "4", "0", "-97", "998244353", "2147483647")
	case 3, 4:
		line := d.one("eval ", "run ") + d.one("1000", "16384", d.number())
		for range d.Intn(4) {
			line += " " + d.number()
		}
		return line
	case 5, 6:
		return d.code()
	case 7:
		return "walk " + d.number()
	case 8:
		return "table " + d.number()
	case 9:
		return "vouch " + d.one("4", "8", d.number()) + " " + d.one("1", "3", d.number())
	case 10:
		return d.one("", " ", "bad", "show all", "----", "walk", "eval", "code", "field", "vouch 4", "Show", "eval x")
	}
	return d.broken(d.line())
}

// broken spoils a line.
func (d dice) broken(line string) string {
	words := strings.Split(line, " ")
	i := d.Intn(len(words))
	switch d.Intn(5) {
	case 0:
		words[i] = d.spoilt()
	case 1:
		words = append(words[:i:i], words[i+1:]...)
	case 2:
		words = append(words[:i:i], append([]string{d.one("", "0", "5", "halt", "show")}, words[i:]...)...)
	case 3:
		words[i] = strings.ToUpper(words[i])
	case 4:
		return strings.Replace(line, " ", d.one("  ", "\t", "", "\r", ","), 1)
	}
	return strings.Join(words, " ")
}

func (d dice) lines(n int) []string {
	lines := make([]string, n)
	for i := range lines {
		lines[i] = d.line()
	}
	return lines
}

// TestA2Random: sessions of any kind have the answers that the document asks for.
func TestA2Random(t *testing.T) {
	t.Parallel()
	for seed := range 2000 {
		d := newDice(seed)
		text := asked(d.program(), d.lines(d.Intn(15))...)
		if d.Intn(2) == 0 {
			text = strings.TrimSuffix(text, "\n")
		}
		same(t, run.Run(text), wanted(text), "Run(%q)", text)
	}
}

// TestP1Run: any bytes have an answer, and it is that of the document.
func TestP1Run(t *testing.T) {
	t.Parallel()
	for seed := range 600 {
		d := newDice(seed)
		text := []byte(asked(d.program(), d.lines(4)...))
		for range 1 + d.Intn(4) {
			i := d.Intn(len(text))
			switch d.Intn(3) {
			case 0:
				text[i] = byte(d.Intn(256))
			case 1:
				text = append(text[:i], text[i+1:]...)
			case 2:
				text[i] = d.one("\n", "-", " ", "0", "\r", "#")[0]
			}
		}
		same(t, run.Run(string(text)), wanted(string(text)), "Run(%q)", text)
	}
	for b := range 256 {
		for _, text := range []string{string([]byte{byte(b)}), asked(factorial, string([]byte{byte(b)})), asked(factorial, "eval 100 "+string([]byte{byte(b)}))} {
			same(t, run.Run(text), wanted(text), "Run(%q)", text)
		}
	}
}
