package run_test

import (
	"fmt"
	"strings"
	"testing"

	"attest/api"
	"attest/field"
	"attest/run"
	"attest/source"
)

const factorial = "fn main(n) = if n then n * main(n - 1) else 1"

func fieldOf(t *testing.T, p int) *field.Field {
	t.Helper()
	f, err := field.New(p)
	if err != nil {
		t.Fatalf("field.New(%d): %v", p, err)
	}
	return f
}

// programOf reads a text that is a program.
func programOf(t *testing.T, text string) *source.Program {
	t.Helper()
	p, at, err := source.Parse(text)
	if err != nil {
		t.Fatalf("source.Parse(%q): %v at %d", text, err, at)
	}
	return p
}

func same(t *testing.T, got, want any, what string, args ...any) {
	t.Helper()
	if g, w := fmt.Sprint(got), fmt.Sprint(want); g != w {
		t.Errorf("%s: got %q, want %q", fmt.Sprintf(what, args...), g, w)
	}
}

// asked is a session in which lines are asked of a program.
func asked(program string, lines ...string) string {
	return program + "\n----\n" + strings.Join(lines, "\n") + "\n"
}

// lastAnswer is the answer to the last line, which has one line alone.
func lastAnswer(program string, lines ...string) string {
	answers := strings.Split(run.Run(asked(program, lines...)), "\n")
	return answers[max(len(answers)-2, 0)]
}

// TestA1Document: all answers that the document names, in one session.
func TestA1Document(t *testing.T) {
	got := run.Run(asked(factorial,
		"show", "weigh", "field 97", "eval 100 3", "field 12289", "run 100 3", "field 97",
		"code 1 set 0 5 0 halt 0 0 0", "walk 1", "table 2", "vouch 4 9", "", "field 12", "error"))
	want := factorial + "\n" +
		"functions 1 args 1 weight 10\n" +
		"generator 5\n" +
		"6 of 27 parts\n" +
		"generator 11\n" +
		"outcome 6\n" +
		"generator 5\n" +
		"2 instructions\n" +
		"outcome 5 steps 1 cells 1\n" +
		"outcome 5\n" +
		"1 2 0 1 0 0 0 5 0 0 0 0 0 0 0 0 0 0 0 0 1 0\n" +
		"1 2 0 1 0 0 0 5 0 0 0 0 0 0 1 1 0 0 5 5 0 1\n" +
		"outcome 5 tries 0 bytes 869\n" +
		"error ErrSyntax\n" +
		"error ErrPrime\n" +
		"error ErrSyntax\n"
	same(t, got, want, "the session")
}

// TestA1Lines: where the program ends, and which lines there are.
func TestA1Lines(t *testing.T) {
	const show, none = factorial + "\n", "error ErrSyntax\n"
	for _, c := range []struct{ text, want string }{
		{factorial, ""},
		{factorial + "\n", ""},
		{factorial + "\n----", ""},
		{factorial + "\n----\n", ""},
		{factorial + "\n----\n\n", none},
		{factorial + "\n----\n\n\n", none + none},
		{factorial + "\n----\nshow", show},
		{factorial + "\n----\nshow\n", show},
		{factorial + "\n----\nshow\n\n", show + none},
		{factorial + "\n----\n\nshow", none + show},
		{factorial + "\n----\nshow\n\nshow", show + none + show},
		{factorial + "\n----\n----\nshow\n", none + show},
		{factorial + "\n----\nshow\n----\nshow", show + none + show},
		{factorial + "\n\n\n----\nshow\n", show},
		{"\n" + factorial + " # of 1 to n ----\n----\nshow\n", show},
		{"fn main() =\n--\n--1\n----\nshow\n", "fn main() = ----1\n"},
		{"fn main() = ----\n1\n----\nshow\n", "fn main() = ----1\n"},
		{"fn main() =\n---- 1\n----\nshow\n", "fn main() = ----1\n"},
		{"fn main() =\n -----\n1\n----\nshow\n", "fn main() = -----1\n"},
		{factorial + "\n----\nshow\r\nshow\n", none + show},
		{factorial + "\n----\nshow\x00\nshow\n", none + show},
	} {
		same(t, run.Run(c.text), c.want, "Run(%q)", c.text)
	}
}

// TestA1Faults: a fault of the program is told with its place, and nothing else is.
func TestA1Faults(t *testing.T) {
	deep := "fn main() = " + strings.Repeat("-", 65) + "1"
	for _, c := range []struct{ program, want string }{
		{"fn main() =", "error ErrSyntax at 11\n"},
		{"fn main() = 1 == 2 == 3", "error ErrSyntax at 19\n"},
		{"fn main(a) = let a = 1; a", "error ErrSame at 17\n"},
		{"fn f() = g()", "error ErrName at 9\n"},
		{"fn f() = 1", "error ErrName at 10\n"},
		{"fn main() = 9223372036854775808", "error ErrRange at 12\n"},
		{deep, "error ErrFull at 76\n"},
		{"", "error ErrName at 0\n"},
		{"\n", "error ErrName at 1\n"},
		{"----1", "error ErrSyntax at 0\n"},
		{" ----", "error ErrSyntax at 1\n"},
		{"---- ", "error ErrSyntax at 0\n"},
		{"----\r", "error ErrSyntax at 0\n"},
		{"---", "error ErrSyntax at 0\n"},
	} {
		same(t, run.Run(c.program), c.want, "Run(%q), which is a program alone", c.program)
		same(t, run.Run(asked(c.program, "show", "bad", "walk 1")), c.want, "Run(%q), lines being asked", c.program)
	}
	for _, c := range []struct{ text, want string }{
		{"", "error ErrName at 0\n"},
		{"----", "error ErrName at 0\n"},
		{"----\n", "error ErrName at 0\n"},
		{"----\nshow\n", "error ErrName at 0\n"},
		{"----\n" + factorial + "\n----\nshow\n", "error ErrName at 0\n"},
		{"\n----\nshow\n", "error ErrName at 0\n"},
		{"\n\n----\nshow\n", "error ErrName at 1\n"},
		{"fn main() =\n----\n1\n----\nshow\n", "error ErrSyntax at 11\n"},
		{factorial + "\n---- \nshow\n", "error ErrName at 52\n"},
		{factorial + "\n----\r\nshow\n", "error ErrSyntax at 50\n"},
		{factorial + "----\nshow\n", "error ErrName at 50\n"},
	} {
		same(t, run.Run(c.text), c.want, "Run(%q)", c.text)
	}
}

// filled is a text with a remark behind it, so that it has so many bytes.
func filled(text string, n int) string { return text + "#" + strings.Repeat("x", n-len(text)-1) }

// TestA1Full: how long a session may be, and how long its program.
func TestA1Full(t *testing.T) {
	program := filled(factorial, api.MaxText)
	head := program + "\n----\nshow\n"
	most := head + strings.Repeat("\n", api.MaxRun-len(head))
	same(t, run.Run(most), factorial+"\n"+strings.Repeat("error ErrSyntax\n", api.MaxRun-len(head)), "a session of 8000 bytes")
	same(t, run.Run(most+"\n"), "error ErrFull\n", "one of 8001")
	same(t, run.Run(strings.Repeat("x", api.MaxRun+1)), "error ErrFull\n", "one of 8001, whose program is none")
	same(t, run.Run(strings.Repeat("x", api.MaxRun)), "error ErrFull at 0\n", "a program of 8000 bytes")
	same(t, run.Run(asked(filled(factorial, api.MaxText+1), "show")), "error ErrFull at 0\n", "a program of 4001 bytes")
	same(t, run.Run("----\n"+strings.Repeat("\n", api.MaxRun)), "error ErrFull\n", "no program, and too many lines")
}

// TestA3: the answers to the first lines are the beginning of the answers to all.
func TestA3(t *testing.T) {
	t.Parallel()
	for seed := range 60 {
		d := newDice(seed)
		program, lines := d.program(), d.lines(12)
		all := run.Run(asked(program, lines...))
		before := ""
		for n := range len(lines) + 1 {
			text := strings.Join(append([]string{program, "----"}, lines[:n]...), "\n")
			for _, end := range []string{"\n", ""} {
				if n > 0 && lines[n-1] == "" && end == "" {
					continue // an empty line that no newline ends is none
				}
				got := run.Run(text + end)
				if !strings.HasPrefix(all, got) || !strings.HasPrefix(got, before) {
					t.Fatalf("Run(%q) is %q: not the beginning of %q, or not with %q ahead", text, got, all, before)
				}
				if n > 0 && len(got) == len(before) {
					t.Fatalf("Run(%q) has no answer to its last line", text)
				}
				if end == "" || n > 0 && lines[n-1] == "" {
					before = got
				}
			}
		}
		same(t, before, all, "the answers to all lines of %q", lines)
	}
}

// TestP2Run: what is set in a session is not there in another one.
func TestP2Run(t *testing.T) {
	const lines = "field 12289\ncode 1 set 0 5 0 halt 0 0 0\nwalk 1\nvouch 4 3\n"
	first := run.Run(factorial + "\n----\n" + lines)
	same(t, first, "generator 11\n2 instructions\noutcome 5 steps 1 cells 1\noutcome 5 tries 0 bytes 918\n", "a session that sets")
	same(t, run.Run(asked(factorial, "eval 100 -1", "eval 1000 -1", "walk 1")), "error ErrLong\n96 of 771 parts\nerror ErrBlank\n", "one that sets nothing, behind it")
	same(t, run.Run(factorial+"\n----\n"+lines), first, "the first one once more")
}
