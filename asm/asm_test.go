package asm_test

import (
	"fmt"
	"slices"
	"strings"
	"testing"

	"attest/api"
	"attest/asm"
	"attest/field"
	"attest/lower"
	"attest/plain"
	"attest/source"
)

func same(t *testing.T, got, want any, what string, args ...any) {
	t.Helper()
	if g, w := fmt.Sprint(got), fmt.Sprint(want); g != w {
		t.Errorf("%s: got %q, want %q", fmt.Sprintf(what, args...), g, w)
	}
}

// code of a size and of instructions.
func code(size int, list ...api.Ins) api.Code { return api.Code{Size: size, List: list} }

// ins gives an instruction by its four numbers.
func ins(op, a, b, c int) api.Ins { return api.Ins{Op: op, A: a, B: b, C: c} }

// shortened is a text of which as much is told as is of use.
func shortened(text string) string {
	if len(text) > 300 {
		return fmt.Sprintf("%q .. %q, %d bytes", text[:100], text[len(text)-100:], len(text))
	}
	return fmt.Sprintf("%q", text)
}

// reads sees that a text is code.
func reads(t *testing.T, text string, want api.Code) {
	t.Helper()
	got, at, err := asm.Parse(text)
	if err != nil || at != 0 || got.Size != want.Size || !slices.Equal(got.List, want.List) {
		t.Errorf("Parse of %s: got %v, %d, %v, want %v", shortened(text), got, at, err, want)
	}
}

// fails sees that a text is none, and that nothing but the fault is told.
func fails(t *testing.T, text string, at int, want api.Errno) {
	t.Helper()
	c, where, err := asm.Parse(text)
	if plain.Told(err) != want || where != at || c.Size != 0 || c.List != nil {
		t.Errorf("Parse of %s: got %v, %d, %v, want %v at %d", shortened(text), c, where, err, want, at)
	}
}

// failsAt sees that a text is none, for the fault that stands behind the mark !.
func failsAt(t *testing.T, marked string, want api.Errno) {
	t.Helper()
	ahead, behind, ok := strings.Cut(marked, "!")
	if !ok {
		t.Fatalf("there is no mark in %q", marked)
	}
	fails(t, ahead+behind, len(ahead), want)
}

// repeated is a text that has a line so many times.
func repeated(line string, n int) string { return strings.Repeat(line+"\n", n) }

func TestI3Document(t *testing.T) {
	const text = "size 1\nset 0 5\nend: \nhalt 0\njump end"
	want := code(1, ins(api.OpSet, 0, 5, 0), ins(api.OpHalt, 0, 0, 0), ins(api.OpJump, 1, 0, 0))
	reads(t, text, want)
	reads(t, text+"\n", want)
	prints(t, want, "size 1\nset 0 5\nl1:\nhalt 0\njump l1\n")
}

// TestI1Lines: what stands between words, behind ;, and between lines.
func TestI1Lines(t *testing.T) {
	want := code(7, ins(api.OpAdd, 1, 2, 3), ins(api.OpHalt, 0, 0, 0))
	for _, text := range []string{
		"size 7\nadd 1 2 3\nhalt 0",
		"size 7\nadd 1 2 3\nhalt 0\n",
		"\n\nsize 7\n\n\nadd 1 2 3\n\nhalt 0\n\n\n",
		" size  7 \n\tadd\t1\t2\t3\t\n \t halt \t 0 \t ",
		"size\t7\nadd 1\t 2 \t3\nhalt 0\n \n\t\n \t",
		"; first\nsize 7; the size\nadd 1 2 3;x;y\n;\n;;\n ; size 8\n\t;halt 0\nhalt 0 ;",
		"size 7;\nadd 1 2 3; 4 5\nhalt 0;\x00\xff\r:!\n;",
	} {
		reads(t, text, want)
	}
	for _, marked := range []string{
		"size !7\r\nadd 1 2 3\nhalt 0\n", "size 7\nadd 1 2 !3\r\n", "size 7\n!\r\nhalt 0\n", "size 7\nhalt !0\v\n", "size 7\n!\fhalt 0\n", "size 7\nhalt !\u00a00\n",
		"!\ufeffsize 7\n", "size 7\n!\x00\n", "size 7\nhalt !0\x00\n", "size 7\n!# no\n", "size 7\nhalt !0,\n", "size 7\nadd !1,2,3\n", "size 7\nhalt 0 !halt 0\n", "size 7 !halt 0\n",
	} {
		failsAt(t, marked, api.ErrSyntax)
	}
	failsAt(t, "size;7!\nhalt 0\n", api.ErrSyntax)
	failsAt(t, "size 7\nadd 1 2;3!\nhalt 0\n", api.ErrSyntax)
}

// TestI1Numbers: each wherever one may stand.
func TestI1Numbers(t *testing.T) {
	for _, n := range []int{0, 1, -1, 9, 10, -10, 101, 97, 4096, 4097, 123456789012345678, 999999999999999999, -999999999999999999, 100000000000000000} {
		text := fmt.Sprintf("size %d\nadd %[1]d %[1]d %[1]d\nset %[1]d %[1]d\njump %[1]d\nzero %[1]d %[1]d\ncall %[1]d %[1]d\nback %[1]d", n)
		reads(t, text, code(n, ins(api.OpAdd, n, n, n), ins(api.OpSet, n, n, 0), ins(api.OpJump, n, 0, 0), ins(api.OpZero, n, n, 0), ins(api.OpCall, n, n, 0), ins(api.OpBack, n, 0, 0)))
	}
	for _, word := range []string{
		"-", "--1", "-0", "00", "01", "-01", "-00", "1000000000000000000", "-1000000000000000000", "000000000000000001", "9223372036854775807", "9223372036854775808",
		"99999999999999999999999999", "+1", "+0", "1.0", "0x1", "1e3", "1_0", "1x", "x-", "/", ":", "1:", "1-", "1-1", "٣", "１", "−1", "\xff", "1\xff", "\"1\"",
	} {
		for _, marked := range []string{
			"size !%s", "size 1\nhalt !%s", "size 1\nadd !%s 1 1", "size 1\nadd 1 !%s 1", "size 1\nadd 1 1 !%s", "size 1\nset !%s 1", "size 1\nset 1 !%s",
			"size 1\njump !%s", "size 1\nzero !%s 1", "size 1\nzero 1 !%s", "size 1\ncall !%s 1", "size 1\ncall 1 !%s",
		} {
			failsAt(t, fmt.Sprintf(marked, word), api.ErrSyntax)
		}
	}
}

// TestI1NoNames: where a number alone may stand, no name may.
func TestI1NoNames(t *testing.T) {
	for _, marked := range []string{
		"size !a", "halt !a", "back !a", "take !a", "set !a 1", "set 1 !a", "must 1 !a", "pass !a 1", "add !a 1 1", "sub 1 !a 1", "mul 1 1 !a", "div !a a a", "same 1 !a a",
		"zero !a 1", "zero !a a", "call 1 !a", "call a !a",
	} {
		if !strings.HasPrefix(marked, "size") {
			marked = "size 1\na:\n" + marked
		}
		failsAt(t, marked, api.ErrSyntax)
	}
}

// languageWords are the words that no name is.
var languageWords = []string{"size", "halt", "add", "sub", "mul", "div", "set", "same", "must", "jump", "zero", "call", "back", "take", "pass"}

// TestI1Names: as labels, and where they are asked for.
func TestI1Names(t *testing.T) {
	for _, name := range []string{
		"a", "z", "end", "l1", "x_", "x__9", "abcdefghijklmnop", "a123456789012345", "a_______________", "sizes", "siz", "halts", "add1", "set_", "to", "number", "number0",
	} {
		reads(t, "size 1\nhalt 0\n"+name+":\njump "+name+"\nzero 5 "+name+"\ncall "+name+" 5",
			code(1, ins(api.OpHalt, 0, 0, 0), ins(api.OpJump, 1, 0, 0), ins(api.OpZero, 5, 1, 0), ins(api.OpCall, 1, 5, 0)))
	}
	none := append(slices.Clone(languageWords),
		"_", "_a", "1a", "A", "Z", "aB", "END", "a-b", "a.b", "-a", "a'", "é", "aé", "a\x00", "a\xff", "`", "{", "a`", "a{", "a/", "a@", "a[", "abcdefghijklmnopq", "a1234567890123456", "a:b", "a:", "a::", "end,")
	for _, name := range none {
		failsAt(t, "size 1\n!"+name+"::\n", api.ErrSyntax)
		for _, marked := range []string{"size 1\njump !%s", "size 1\nzero 1 !%s", "size 1\ncall !%s 1"} {
			failsAt(t, fmt.Sprintf(marked, name), api.ErrSyntax)
		}
		if !strings.HasSuffix(name, ":") {
			failsAt(t, "size 1\n!"+name+":\n", api.ErrSyntax)
		}
	}
}

// TestI2Instructions: each, its fields being told apart.
func TestI2Instructions(t *testing.T) {
	for _, c := range []struct {
		line string
		want api.Ins
	}{
		{"halt 1", ins(0, 1, 0, 0)}, {"add 1 2 3", ins(1, 1, 2, 3)}, {"sub 1 2 3", ins(2, 1, 2, 3)}, {"mul 1 2 3", ins(3, 1, 2, 3)}, {"div 1 2 3", ins(4, 1, 2, 3)},
		{"set 1 2", ins(5, 1, 2, 0)}, {"same 1 2 3", ins(6, 1, 2, 3)}, {"must 1 2", ins(7, 1, 2, 0)}, {"jump 1", ins(8, 1, 0, 0)}, {"zero 1 2", ins(9, 1, 2, 0)},
		{"call 1 2", ins(10, 1, 2, 0)}, {"back 1", ins(11, 1, 0, 0)}, {"take 1", ins(12, 1, 0, 0)}, {"pass 1 2", ins(13, 1, 2, 0)},
		{"jump b", ins(8, 2, 0, 0)}, {"zero 7 b", ins(9, 7, 2, 0)}, {"call b 7", ins(10, 2, 7, 0)}, {"jump a", ins(8, 0, 0, 0)}, {"zero 7 a", ins(9, 7, 0, 0)}, {"call a 7", ins(10, 0, 7, 0)},
	} {
		halt := ins(api.OpHalt, 9, 0, 0)
		reads(t, "size 3\na:\n"+c.line+"\nhalt 9\nb:\nhalt 9", code(3, c.want, halt, halt))
		reads(t, "size 3\na:\nhalt 9\nhalt 9\nb:\n"+c.line, code(3, halt, halt, c.want))
		words := strings.Fields(c.line)
		for n := 1; n < len(words); n++ {
			fewer := strings.Join(words[:n], " ")
			for _, tail := range []string{"", " ", "\t", " ; so", ";1"} {
				failsAt(t, "size 3\na:\nb:\n"+fewer+tail+"!\nhalt 9", api.ErrSyntax)
				failsAt(t, "size 3\na:\nb:\n"+fewer+tail+"!", api.ErrSyntax)
			}
		}
		for _, more := range []string{"0", "a", ":", "halt", "halt 9", "\r"} {
			failsAt(t, "size 3\na:\nb:\n"+c.line+" !"+more+"\n", api.ErrSyntax)
		}
		failsAt(t, "size 3\n!"+strings.ToUpper(words[0])+c.line[len(words[0]):], api.ErrSyntax)
		failsAt(t, "size 3\n!Op"+c.line, api.ErrSyntax)
	}
	for _, marked := range []string{"!ad 1 2 3", "!adds 1 2 3", "!OpAdd 1 2 3", "!1 2 3", "!a", "!a 1", "!add: 1", "!stop", "!size", "!size 1", "!size: ", "!nop"} {
		failsAt(t, "size 1\nhalt 0\n"+marked+"\nhalt 0", api.ErrSyntax)
	}
}

// TestI2Size: it comes first, and once.
func TestI2Size(t *testing.T) {
	reads(t, "size 0", code(0))
	reads(t, "size -3\n", code(-3))
	reads(t, ";x\n\n size\t65537 ;y", code(65537))
	for _, marked := range []string{
		"!", "\n!", "\n\n \t\n!", "; size 1!", "; size 1\n!", " !", "!halt 0", "!halt 0\nsize 1\n", "!a:\nsize 1", "\n !Size 1", "!siz 1", "!sizes 1", "!size: 1", "!1", "!:", "!1 size",
		"size!", "size!\n", "size !\n1", "size ; 1!\nhalt 0", "size;1!", "size \t!\nsize 1", "size 1 !2", "size 1 !1 2", "size 1 !halt 0", "size !a", "size !size 1",
	} {
		failsAt(t, marked, api.ErrSyntax)
	}
}

// TestI2Labels: they stand for how many instructions are ahead, wherever they are asked for.
func TestI2Labels(t *testing.T) {
	reads(t, "size 1\na:\nb:\n\n;x\nc: ; so\njump d\njump a\nd:\njump b\njump e\njump c\ne:",
		code(1, ins(8, 2, 0, 0), ins(8, 0, 0, 0), ins(8, 0, 0, 0), ins(8, 5, 0, 0), ins(8, 0, 0, 0)))
	reads(t, "size 1\nl7:\nl0:\nhalt 0\nl1:\njump l7\njump l1", code(1, ins(0, 0, 0, 0), ins(8, 0, 0, 0), ins(8, 1, 0, 0)))
	reads(t, "size 1\nnobody:\n", code(1))
	for _, marked := range []string{
		"!a :", "!a", "!: a", "!:", "!::", "!:a", "!a:b", "!a:halt 0", "a: !halt 0", "a: !x", "a: !:", "a: !b:", "a: !a:", "a:\nb:\n!c :", "!a;:", "!A:", "!1:", "!-1:", "!a::",
	} {
		failsAt(t, "size 1\n"+marked+"\nhalt 0", api.ErrSyntax)
	}
}

func TestI3LabelsTwice(t *testing.T) {
	for _, marked := range []string{
		"a:\n!a:", "a:\nhalt 0\n!a:", "a:\nb:\n !a:", "a:\nb:\n!b: ; so\na:", "a:\n!a: x", "a:\n!a: a:", "jump a\na:\n!a:\njump b", "jump b\na:\n!a:", "a:\n\t!a:\nhalt x",
		"abcdefghijklmnop:\nabcdefghijklmnoo:\n!abcdefghijklmnop:",
	} {
		failsAt(t, "size 1\n"+marked, api.ErrSame)
	}
	failsAt(t, "size 1\na:\nhalt !x\na:", api.ErrSyntax)
	reads(t, "size 1\na:\naa:\na_:\na1:\n", code(1))
}

func TestI3NamesThatNoLabelIs(t *testing.T) {
	for _, marked := range []string{
		"jump !a", "zero 1 !a", "call !a 1", "jump !a\njump b", "a:\njump a\njump !b\njump c", "jump a\ncall !b 1\na:\nzero 1 c", "jump  !aa ; a\na:", "jump !a ; a:", "jump !a\naa:",
		"zero 3 \t!nobody\n", "abcdefghijklmno:\njump !abcdefghijklmnop",
	} {
		failsAt(t, "size 1\n"+marked, api.ErrName)
	}
	// what is wrong in any other way counts first, though it be further on
	failsAt(t, "size 1\njump a\nhalt!", api.ErrSyntax)
	failsAt(t, "size 1\njump a\nb:\n!b:", api.ErrSame)
	failsAt(t, "size 1\njump a !b", api.ErrSyntax)
	fails(t, "size 1\njump a\n"+repeated("halt 0", api.MaxCode), len("size 1\njump a\n"+repeated("halt 0", api.MaxCode-1)), api.ErrFull)
}

// TestI3FirstFault: of two the one that stands ahead is told.
func TestI3FirstFault(t *testing.T) {
	for _, marked := range []string{
		"size 1\nhalt !x\nhalt y", "size 1\nhalt!\n:", "size 1\nadd !x y z", "size 1\nadd 1 !y", "size 1\nadd 1 2 3 !4 5", "size 1\nset 1!\nset", "size !x y\n:", "!x\nsize 1",
		"size 1\n!x\na:\na:", "size 1\na:\nhalt!\na:\n",
	} {
		failsAt(t, marked, api.ErrSyntax)
	}
}

// TestI3Instructions: there may be MaxCode of them; labels and empty lines are none.
func TestI3Instructions(t *testing.T) {
	most := "size 1\n" + repeated("jump end", api.MaxCode)
	to := slices.Repeat([]api.Ins{ins(api.OpJump, api.MaxCode, 0, 0)}, api.MaxCode)
	reads(t, most+"end:", code(1, to...))
	reads(t, most+"\n;halt 0\nend:\nb:\n\n", code(1, to...))
	fails(t, most+"end:\nhalt 0", len(most)+len("end:\n"), api.ErrFull)
	for _, line := range []string{"halt 0", "halt", "halt x", "jump nobody", "add 1 2 3 4", "halt 0\nhalt x", "pass"} {
		fails(t, most+" "+line, len(most)+1, api.ErrFull)
	}
	for _, line := range []string{"nop", "size 1", "halt: 0", ":", "1"} {
		fails(t, most+" "+line, len(most)+1, api.ErrSyntax)
	}
	fails(t, most+"end:\nend:\nhalt 0", len(most)+len("end:\n"), api.ErrSame)
	fails(t, most+"end: x\nhalt 0", len(most)+len("end: "), api.ErrSyntax)
	fails(t, most, len("size 1\njump "), api.ErrName)
	fails(t, "size 1\nhalt x\n"+most, len("size 1\nhalt "), api.ErrSyntax)
}

// TestI3Length: a text may have MaxAsm bytes.
func TestI3Length(t *testing.T) {
	for _, filling := range []string{" ", "\n", "\t", ";", "; x\n"} {
		full := strings.Repeat(filling, api.MaxAsm)
		text := "size 1\nhalt 5\n"
		reads(t, text+full[:api.MaxAsm-len(text)], code(1, ins(api.OpHalt, 5, 0, 0)))
		fails(t, text+full[:api.MaxAsm-len(text)+1], 0, api.ErrFull)
		short := "size 1\nhalt"
		padded := short + full[:api.MaxAsm-len(short)]
		fails(t, padded, endOfLine(padded, len(short)), api.ErrSyntax)
		fails(t, full[:api.MaxAsm], api.MaxAsm, api.ErrSyntax)
		fails(t, full[:api.MaxAsm]+"x", 0, api.ErrFull)
	}
	fails(t, strings.Repeat("x", api.MaxAsm), 0, api.ErrSyntax)
	fails(t, "size "+strings.Repeat("1", api.MaxAsm-5), 5, api.ErrSyntax)
	fails(t, "size 1\n"+strings.Repeat("a", api.MaxAsm-8)+":", 7, api.ErrSyntax)
	fails(t, "size 1\nx"+strings.Repeat("a", api.MaxAsm), 0, api.ErrFull)
	// as many labels, and as many lines, as there may be
	text := "size 1\n"
	var lots strings.Builder
	n := 0
	for ; len(text)+lots.Len()+8 <= api.MaxAsm; n++ {
		fmt.Fprintf(&lots, "a%d:\n", n)
	}
	reads(t, text+lots.String(), code(1))
	fails(t, text+lots.String()+"a0:", len(text)+lots.Len(), api.ErrSame)
}

// endOfLine is where the line that has a place ends.
func endOfLine(text string, at int) int {
	if n := strings.IndexByte(text[at:], '\n'); n >= 0 {
		return at + n
	}
	return len(text)
}

func TestP2AnswersShareNothing(t *testing.T) {
	const text = "size 1\na:\njump a\nhalt 0\n"
	first, _, err := asm.Parse(text)
	second, _, err2 := asm.Parse(text)
	if err != nil || err2 != nil {
		t.Fatal(err, err2)
	}
	clear(first.List)
	same(t, second, code(1, ins(api.OpJump, 0, 0, 0), ins(api.OpHalt, 0, 0, 0)), "a second answer")
	reads(t, text, second)
}

// TestI4Programs: code that programs are lowered to is written, and read again.
func TestI4Programs(t *testing.T) {
	f, err := field.New(12289)
	if err != nil {
		t.Fatal(err)
	}
	for _, text := range []string{
		"fn main() = 1", "fn main(n) = if n then n * main(n - 1) else 1", "fn main(a, b) = let x = a / b; need x == f(a); -x fn f(a) = if a == 1 then 2 else f(a - 1)",
	} {
		p, _, err := source.Parse(text)
		if err != nil {
			t.Fatal(err)
		}
		c, err := lower.Code(f, p)
		if err != nil {
			t.Fatal(err)
		}
		again(t, c)
	}
}
