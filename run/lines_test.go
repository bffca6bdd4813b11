package run_test

import (
	"fmt"
	"strings"
	"testing"

	"attest/api"
	"attest/lower"
	"attest/machine"
	"attest/run"
	"attest/whole"
)

// everyOp is code in which each Op is done, OpZero both ways. Its outcome is 6.
const everyOp = "code 9 set 0 6 0 set 1 2 0 add 0 1 2 sub 0 1 3 mul 2 3 4 div 4 1 5 same 0 1 6 same 0 0 7 must 0 0 0 " +
	"zero 6 11 0 halt 0 0 0 zero 7 10 0 pass 0 0 0 call 16 2 0 take 8 0 0 jump 18 0 0 add 0 0 1 back 0 0 0 halt 8 0 0"

// TestA2Numbers: what a number is. Each is set to a cell, and told as the outcome.
func TestA2Numbers(t *testing.T) {
	for _, c := range []struct {
		word string
		is   int
	}{
		{"0", 0}, {"1", 1}, {"9", 9}, {"10", 10}, {"97", 0}, {"123456789", 123456789 % 97}, {"999999999", 999999999 % 97}, {"100000000", 100000000 % 97},
		{"-1", 96}, {"-10", 87}, {"-97", 0}, {"-999999999", 97 - 999999999%97},
	} {
		got := lastAnswer(factorial, "code 1 set 0 "+c.word+" 0 halt 0 0 0", "walk 1")
		same(t, got, fmt.Sprintf("outcome %d steps 1 cells 1", c.is), "the number %s", c.word)
	}
	for _, word := range []string{
		"", "-", "--1", "-0", "00", "01", "-01", "-00", "000000001", "1000000000", "-1000000000", "0000000000", "12345678901234567890",
		"+1", "1.0", "0x1", "1e3", "1_000", "a", "1a", "a1", "/", ":", "1/", "1:", "1-", "1-1", "٣", "１", "1\t", "\t1", "1\r", "\x00", "\xff", "1\xff", "−1",
	} {
		got := run.Run(asked(factorial, "code 1 set 0 5 0 halt 0 0 0", "code 1 set 0 "+word+" 0 halt 0 0 0", "walk 1", "walk "+word, "eval "+word+" 3",
			"eval 100 "+word, "field "+word, "table "+word, "vouch "+word+" 1", "vouch 4 "+word, "code "+word+" halt 0 0 0", "run "+word+" 3", "run 100 "+word))
		want := "2 instructions\nerror ErrSyntax\noutcome 5 steps 1 cells 1\n" + strings.Repeat("error ErrSyntax\n", 10)
		same(t, got, want, "%q, which is no number", word)
	}
}

// TestA2NoLines: what is no line, for its words, or for what stands between them.
func TestA2NoLines(t *testing.T) {
	for _, line := range []string{
		"", " ", "  ", "bad", "----", "#", "fn main() = 1",
		"show all", "show 1", " show", "show ", "Show", "SHOW", "sho", "shows", "show\t", "show\r",
		"weigh 1", "weigh ", " weigh", "weight",
		"field", "field ", "field  97", "field 97 ", " field 97", "field 97 97", "field\t97", "field97", "fields 97",
		"eval", "eval ", "eval 100  3", "eval  100 3", "eval 100 3 ", "eval 100,3", "eval 100\t3", "eval 100 n", "evals 100 3",
		"run", "run ", "run 100  3", "run 100 3 ", "run 100 n", "runs 100 3",
		"code", "code ", "code 0 ", "code x", "code halt 0 0 0", "code 0 halt", "code 0 halt 0 0", "code 0 halt 0 0 0 ", "code 0 halt 0 0 0 0",
		"code 0 halt 0 0 0 0 0 0 0", "code 0 0 0 0 0", "code 0 stop 0 0 0", "code 0 Halt 0 0 0", "code 0 OpHalt 0 0 0", "code 0  halt 0 0 0",
		"code 0 halt  0 0 0", "code 0 0 0 0 halt", "code 0 halt 0 0 halt", "code 0 halt 0 0 0 halt", "code 0 halt 0 0 0 add 0 0", "code  0 halt 0 0 0",
		"code 0 halt 0 0 0 stop 0 0 0", "code 0  0 0 0", "code 0 halt 0 0 0; halt 0 0 0", "code 0 halt 0 0 x", "codes 0",
		"walk", "walk ", "walk 1 2", "walk 1 ", "walk  1", "walks 1",
		"table", "table ", "table 1 2", "table 1 ", "tables 1",
		"vouch", "vouch 4", "vouch 4 ", "vouch 4 1 ", "vouch 4 1 1", "vouch 4  1", "vouches 4 1",
	} {
		got := run.Run(asked(factorial, "code 1 set 0 5 0 halt 0 0 0", line, "walk 1", "eval 100 3"))
		same(t, got, "2 instructions\nerror ErrSyntax\noutcome 5 steps 1 cells 1\n6 of 27 parts\n", "%q, which is no line", line)
	}
}

// TestA2Show: the program is told as Print writes it, weighed as a whole.
func TestA2Show(t *testing.T) {
	for _, text := range []string{
		factorial,
		"fn main()=(1-(2-3))*-(4+5)",
		"# two\nfn f(a , b)=((a))\n\nfn main (n) = f ( n,(n) )",
		"fn main(a, b, c) = let x = a; need x == b; if c then x else 97",
	} {
		p := programOf(t, text)
		want := fmt.Sprintf("%sfunctions %d args %d weight %d\n%[1]s", p.Print(), len(p.Functions()), p.Args(), p.Weight())
		same(t, run.Run(asked(text, "show", "weigh", "show")), want, "%q, shown and weighed", text)
	}
	same(t, run.Run(asked("fn f(a, b) = a fn main()=2*3", "show", "weigh")), "fn f(a, b) = a\nfn main() = 2 * 3\nfunctions 2 args 0 weight 6\n", "two functions")
}

// TestA2Field: a field is set, or none.
func TestA2Field(t *testing.T) {
	for _, p := range []int{3, 5, 17, 97, 193, 257, 12289, 65537, 998244353, 999999937} {
		want := fmt.Sprintf("generator %d\n%d of 3 parts\n", fieldOf(t, p).Generator(), fieldOf(t, p).Of(98-100))
		same(t, run.Run(asked("fn main(n) = 98 - n", fmt.Sprintf("field %d", p), "eval 100 100")), want, "the field of %d", p)
	}
	for _, p := range []int{2, 1, 0, -1, -3, -97, 4, 9, 91, 12287, 999999999} {
		same(t, run.Run(asked("fn main(n) = 98 - n", fmt.Sprintf("field %d", p), "eval 100 100")), "error ErrPrime\n95 of 3 parts\n", "%d, which has no field", p)
		same(t, run.Run(asked("fn main(n) = 98 - n", "field 17", fmt.Sprintf("field %d", p), "eval 100 100")), "generator 3\nerror ErrPrime\n15 of 3 parts\n", "%d behind 17", p)
	}
}

// TestA2Eval: what a program comes to, and each of its faults.
func TestA2Eval(t *testing.T) {
	for _, c := range []struct{ program, line, want string }{
		{factorial, "eval 27 3", "6 of 27 parts"},
		{factorial, "eval 26 3", "error ErrLong"},
		{factorial, "eval 0 3", "error ErrLong"},
		{factorial, "eval 16384 -94", "6 of 27 parts"},
		{factorial, "eval 16385 3", "error ErrRange"},
		{factorial, "eval -1 3", "error ErrRange"},
		{factorial, "eval -1", "error ErrSize"},
		{factorial, "eval 100", "error ErrSize"},
		{factorial, "eval 100 3 3", "error ErrSize"},
		{"fn main() = 1 / 0", "eval 100", "error ErrStuck"},
		{"fn main() = 98", "eval 1", "1 of 1 parts"},
		{"fn main(a, b, c) = a - b - c", "eval 100 1 2 -3", "2 of 5 parts"},
	} {
		same(t, lastAnswer(c.program, c.line), c.want, "%q of %q", c.line, c.program)
	}
}

// TestA2Run: a program is run as code; faults of Eval count ahead of what N1 and N2 ask.
func TestA2Run(t *testing.T) {
	for _, c := range []struct{ program, prime, line, want string }{
		{factorial, "12289", "run 27 3", "outcome 6"},
		{factorial, "12289", "run 26 3", "error ErrLong"},
		{factorial, "12289", "run 100 -12286", "outcome 6"},
		{factorial, "12289", "run 100", "error ErrSize"},
		{factorial, "12289", "run -1 3 3", "error ErrSize"},
		{factorial, "12289", "run -1 3", "error ErrRange"},
		{factorial, "12289", "run 16385 3", "error ErrRange"},
		{factorial, "97", "run 100 3", "error ErrRange"},
		{factorial, "97", "run 26 3", "error ErrLong"},
		{factorial, "97", "run 100", "error ErrSize"},
		{"fn main(a) = need a == 1; 1 / a", "97", "run 100 2", "error ErrStuck"},
		{"fn main(a) = need a == 1; 1 / a", "12289", "run 100 2", "error ErrStuck"},
		{"fn main() = 98", "97", "run 1", "outcome 1"},
		{"fn main(a, b, c) = a - b - c", "12289", "run 100 1 2 -3", "outcome 2"},
	} {
		same(t, lastAnswer(c.program, "field "+c.prime, c.line), c.want, "%q of %q over %s", c.line, c.program, c.prime)
	}
	got := run.Run(asked(factorial, "code 1 set 0 5 0 halt 0 0 0", "field 12289", "run 100 3", "walk 1"))
	same(t, got, "2 instructions\ngenerator 11\noutcome 6\noutcome 5 steps 1 cells 1\n", "the code, behind a run of the program")
}

// sum is a program that adds up n numbers, each of which is 1: it has 2 n - 1 parts, and looks at all of them.
func sum(n int) string { return "fn main() = 1" + strings.Repeat("+1", n-1) }

// primeFrom is the first prime that is no less than a number, primeBelow the last one that is less.
func primeFrom(n int) int {
	for !prime(n) {
		n++
	}
	return n
}

func primeBelow(n int) int {
	for n--; !prime(n); n-- {
	}
	return n
}

func prime(n int) bool {
	for d := 2; d*d <= n; d++ {
		if n%d == 0 {
			return false
		}
	}
	return n > 2
}

// TestA2RunField: the prime may be as small as N1 and N2 ask, and no smaller.
func TestA2RunField(t *testing.T) {
	// one part, no names: N1 asks for 20 instructions; N2 that 3 times 9, 27, is below the prime
	same(t, lastAnswer("fn main() = 1", "field 29", "run 1"), "outcome 1", "one part over 29")
	same(t, lastAnswer("fn main() = 1", "field 23", "run 1"), "error ErrRange", "one part over 23")
	for _, n := range []int{2, 3, 5, 20, 60, 100} {
		parts := 2*n - 1
		room := (parts + 2) * (parts + 8)
		over, under := primeFrom(room+1), primeBelow(room)
		same(t, lastAnswer(sum(n), fmt.Sprintf("field %d", over), fmt.Sprintf("run %d", parts)), fmt.Sprintf("outcome %d", n), "%d numbers over %d", n, over)
		same(t, lastAnswer(sum(n), fmt.Sprintf("field %d", under), fmt.Sprintf("run %d", parts)), "error ErrRange", "%d numbers over %d", n, under)
	}
	// factorial weighs 10 and has one name: N1 asks for 112, N2 with 27 parts that 29 times 19, 551, is below the prime
	same(t, lastAnswer(factorial, "field 557", "run 27 3"), "outcome 6", "factorial over 557")
	same(t, lastAnswer(factorial, "field 547", "run 27 3"), "error ErrRange", "factorial over 547")
	same(t, lastAnswer(factorial, "field 523", "run 27 3"), "error ErrRange", "factorial over 523")
	// ten names weigh 11, with what main is: N1 asks for 140, N2 that 3 times 29, 87, is below the prime
	const ten = "fn main(a, b, c, d, e, f, g, h, i, j) = j"
	const args = " 1 2 3 4 5 6 7 8 9 10"
	same(t, lastAnswer(ten, "field 149", "run 1"+args), "outcome 10", "ten names over 149")
	same(t, lastAnswer(ten, "field 139", "run 1"+args), "error ErrRange", "ten names over 139")
	// what is not looked at weighs, too: N1 asks for 130, N2 that 5 times 20, 100, is below the prime
	const either = "fn main() = if 0 then 1 + 1 + 1 + 1 + 1 else 1"
	p := programOf(t, either)
	least := 10*p.Weight() + 10
	same(t, p.Weight(), 12, "the weight of %q", either)
	same(t, lastAnswer(either, fmt.Sprintf("field %d", primeFrom(least)), "run 3"), "outcome 1", "over %d", primeFrom(least))
	same(t, lastAnswer(either, fmt.Sprintf("field %d", primeBelow(least)), "run 3"), "error ErrRange", "over %d", primeBelow(least))
}

// TestA2RunCode: the program may weigh as much as N1 asks, and no more.
func TestA2RunCode(t *testing.T) {
	for _, c := range []struct {
		program      string
		weight, args int
		line, want   string
	}{
		{"fn main() = -" + sum(204)[12:], 408, 0, "run 1000", "outcome 202"},
		{sum(205), 409, 0, "run 1000", "error ErrRange"},
		{"fn main(a, b, c) = a" + strings.Repeat("+1", 202), 408, 3, "run 1000 1 2 3", "outcome 203"},
		{"fn main(a, b, c, d) = -a" + strings.Repeat("+1", 201), 408, 4, "run 1000 1 2 3 4", "error ErrRange"},
	} {
		p := programOf(t, c.program)
		same(t, fmt.Sprint(p.Weight(), p.Args()), fmt.Sprint(c.weight, c.args), "weight and names of %q", c.program)
		same(t, lastAnswer(c.program, "field 998244353", c.line), c.want, "%q of %q", c.line, c.program)
	}
}

// TestA2RunSteps: as many parts may be looked at as N2 asks for, and no more: with one name 1635, as 10 (1635 + 1 + 2) is 16380.
func TestA2RunSteps(t *testing.T) {
	for _, c := range []struct{ minus, parts int }{{2, 1631}, {4, 1633}, {6, 1635}, {7, 1636}, {8, 1637}} {
		program := "fn main(n) = " + strings.Repeat("-", c.minus) + "f(n) fn f(n) = if n then 0 + f(n - 1) else 1"
		want := "outcome 1"
		if c.parts > 1635 {
			want = "error ErrRange"
		}
		v, err := programOf(t, program).Eval(fieldOf(t, 998244353), []int{203}, api.MaxSteps)
		same(t, fmt.Sprint(v.Parts, err), fmt.Sprint(c.parts, nil), "the parts of %q with 203", program)
		same(t, lastAnswer(program, "field 998244353", "run 16384 203"), want, "%d parts", c.parts)
	}
}

// TestA2RunLimit: the run is that of With(Code, ..) with the limit of N2, as the layers have it.
func TestA2RunLimit(t *testing.T) {
	f, p := fieldOf(t, 12289), programOf(t, factorial)
	c, err := lower.Code(f, p)
	if err != nil {
		t.Fatal(err)
	}
	for n := range 20 {
		v, err := p.Eval(f, []int{n}, api.MaxSteps)
		if err != nil {
			t.Fatal(err)
		}
		with, err := lower.With(f, c, []int{n})
		if err != nil {
			t.Fatal(err)
		}
		ran, err := machine.Run(f, with, 10*(v.Parts+3))
		if err != nil {
			t.Fatal(err)
		}
		same(t, ran.Outcome, v.Is, "the outcome with %d", n)
		same(t, lastAnswer(factorial, "field 12289", fmt.Sprintf("run %d %d", v.Parts, n)), fmt.Sprintf("outcome %d", v.Is), "run with %d", n)
	}
}

// TestA2Code: each name is that of its Op, and code may be any.
func TestA2Code(t *testing.T) {
	got := run.Run(asked(factorial, "walk 100", everyOp, "walk 100", "field 12289", "walk 100", "code 0", "walk 100", "code -1 halt 0 0 0", "walk 100",
		"code 65536 halt -1 0 0", "walk 0", "code 65537 halt -1 0 0", "walk 0", "code 0 halt -1 0 0", "walk 0", "walk -1", "walk 16384", "walk 16385"))
	want := "error ErrBlank\n19 instructions\noutcome 6 steps 17 cells 13\ngenerator 11\noutcome 6 steps 17 cells 13\n0 instructions\nerror ErrSize\n" +
		"1 instructions\nerror ErrSize\n1 instructions\noutcome 0 steps 0 cells 0\n1 instructions\nerror ErrSize\n1 instructions\noutcome 0 steps 0 cells 0\n" +
		"error ErrRange\noutcome 0 steps 0 cells 0\nerror ErrRange\n"
	same(t, got, want, "code of each kind, walked")
}

// TestA2Walk: what code comes to, and each of its faults.
func TestA2Walk(t *testing.T) {
	for _, c := range []struct{ code, line, want string }{
		{"code 3 set 0 5 0 set 1 -1 0 mul 0 1 2 halt 2 0 0", "walk 3", "outcome 92 steps 3 cells 3"},
		{"code 3 set 0 5 0 set 1 -1 0 mul 0 1 2 halt 2 0 0", "walk 2", "error ErrLong"},
		{"code 1 set 0 5 0 set 0 6 0 halt 0 0 0", "walk 9", "error ErrStuck"},
		{"code 1 set 0 5 0 halt 1 0 0", "walk 9", "error ErrBlank"},
		{"code 1 jump 0 0 0", "walk 16384", "error ErrLong"},
		{"code 1 set 0 5 0 set 0 102 0 halt 0 0 0", "walk 9", "outcome 5 steps 2 cells 1"},
	} {
		same(t, lastAnswer(factorial, c.code, c.line), c.want, "%q of %q", c.line, c.code)
	}
}

// TestA2Table: the outcome and the rows, or a fault and none.
func TestA2Table(t *testing.T) {
	text := asked(factorial, "table 1", "code 0 halt -1 5 0", "table 1", "table 2", "table 0", "table 513", "field 3", "table 1", "field 97", everyOp, "table 17", "table 18")
	got := run.Run(text)
	same(t, got, wanted(text), "tables")
	lines := strings.Split(strings.TrimSuffix(got, "\n"), "\n")
	same(t, lines[0], "error ErrBlank", "the first code, as a table")
	same(t, lines[2:4], []string{"outcome 0", "1 1 0 0 0 0 0 0 0 0 0 0 0 0 0 0 0 0 0 0 1"}, "one that stays")
	same(t, lines[7:9], []string{"error ErrSize", "error ErrSize"}, "with 0 rows, and with 513")
	last := lines[len(lines)-20:]
	same(t, last[:2], []string{"error ErrLong", "outcome 6"}, "all Ops, in 17 rows and in 18")
	for _, row := range last[2:] {
		same(t, len(strings.Fields(row)), 20+19, "the words of %q", row)
	}
}

// TestA2Vouch: a voucher is told by its length, or why there is none.
func TestA2Vouch(t *testing.T) {
	five := api.Code{Size: 1, List: []api.Ins{{Op: api.OpSet, B: 5}, {Op: api.OpHalt}}}
	for _, c := range []struct{ p, n, asked int }{{97, 4, 1}, {97, 4, 64}, {193, 8, 2}, {12289, 16, 3}, {12289, 512, 1}} {
		v, outcome, err := whole.Make(fieldOf(t, c.p), five, c.n, c.asked)
		if err != nil {
			t.Fatal(err)
		}
		got := lastAnswer(factorial, fmt.Sprintf("field %d", c.p), "code 1 set 0 5 0 halt 0 0 0", fmt.Sprintf("vouch %d %d", c.n, c.asked))
		same(t, got, fmt.Sprintf("outcome %d tries %d bytes %d", outcome, v.Tries, len(whole.Bytes(v))), "vouched for over %d: %d rows, %d asked", c.p, c.n, c.asked)
	}
	for _, c := range []struct{ code, line, want string }{
		{"code 1 set 0 5 0 halt 0 0 0", "vouch 8 1", "error ErrSize"},
		{"code 1 set 0 5 0 halt 0 0 0", "vouch 4 0", "error ErrSize"},
		{"code 1 set 0 5 0 halt 0 0 0", "vouch 4 65", "error ErrSize"},
		{"code 1 set 0 5 0 halt 0 0 0", "vouch -4 1", "error ErrSize"},
		{"code 1 halt 0 0 0", "vouch 4 1", "error ErrBlank"},
		{"code 1 jump 0 0 0", "vouch 4 1", "error ErrLong"},
		{"code 1 jump 1 0 0", "vouch 4 1", "error ErrStuck"},
		{"code 1 set 50 5 0 halt 50 0 0", "vouch 4 1", "error ErrFull"},
		{"code 1", "vouch 4 1", "error ErrSize"},
	} {
		same(t, lastAnswer(factorial, c.code, c.line), c.want, "%q of %q", c.line, c.code)
	}
}

// TestA2Tries: how many pairs were drawn in vain is told, where it is not none.
func TestA2Tries(t *testing.T) {
	most := 0
	for b := range 40 {
		c := api.Code{Size: 1, List: []api.Ins{{Op: api.OpSet, B: b}, {Op: api.OpHalt}}}
		v, outcome, err := whole.Make(fieldOf(t, 97), c, 4, 1)
		if err != nil {
			t.Fatal(err)
		}
		most = max(most, v.Tries)
		got := lastAnswer(factorial, fmt.Sprintf("code 1 set 0 %d 0 halt 0 0 0", b), "vouch 4 1")
		same(t, got, fmt.Sprintf("outcome %d tries %d bytes %d", outcome, v.Tries, len(whole.Bytes(v))), "vouched for, with %d", b)
	}
	if most == 0 {
		t.Errorf("none of these has a pair that was drawn in vain")
	}
}
