package source_test

import (
	"strconv"
	"strings"
	"testing"

	"attest/api"
)

// readAs sees what a text is read as: the program with brackets round all that has parts.
func readAs(t *testing.T, text, full string) {
	t.Helper()
	same(t, program(t, text).Full(), full+"\n", "what %q is read as", text)
}

func TestG1BetweenTokens(t *testing.T) {
	for _, text := range []string{
		"fn main(a,b)=if a==b then-a else let c=a;c*b",
		"  fn\tmain\n(\ta ,\n\nb ) = if a == b then - a else let c = a ; c * b  ",
		"#\nfn#fn\nmain(#) = \na,##\nb)=if a#\xff\x00\r\u00e9\n==b then-a else let c=a;c*b# the end",
		"# a remark\n# another one\nfn main(a,b)=if(a==b)then(-(a))else(let c=(a);((c)*(b)))#",
	} {
		readAs(t, text, "fn main(a, b) = (if (a == b) then (-a) else (let c = a; (c * b)))")
	}
	for _, blank := range []string{"\r", "\v", "\f", "\x00", "\u00a0", "\u0085", "\xef\xbb\xbf"} {
		faultAt(t, "fn main()@"+blank+"= 1", api.ErrSyntax)
		faultAt(t, "@"+blank+"fn main() = 1", api.ErrSyntax)
		faultAt(t, "fn main() = 1@"+blank, api.ErrSyntax)
	}
	// A remark ends with its line alone.
	faultAt(t, "fn main() = # 1\r2@", api.ErrSyntax)
}

func TestG1WhatIsNoToken(t *testing.T) {
	for _, token := range []string{"!", ".", "<", "{1}", "[1]", "'a'", "\"a\"", "$a", "&", "|", "%", "^", "~", "?", ":", "\\", "@",
		"\u00e9", "\xff", "_", "_a", "__", "1a", "1_", "0x1", "00", "01", "0_", "007", "1_000", "1fn", "12a3"} {
		const ahead = "fn main() = "
		faulty(t, ahead+token, len(ahead), api.ErrSyntax)
		faulty(t, ahead+"1 + "+token, len(ahead)+4, api.ErrSyntax)
		faulty(t, ahead+"1 "+token+" 2", len(ahead)+2, api.ErrSyntax)
		faulty(t, token+" "+ahead, 0, api.ErrSyntax)
	}
	faultAt(t, "fn main() = 1@.5", api.ErrSyntax)
	faultAt(t, "fn main() = a@\u00e9", api.ErrSyntax)
	faultAt(t, "fn ma@'in() = 1", api.ErrSyntax)
}

func TestG1TheLongestSignCounts(t *testing.T) {
	readAs(t, "fn main(a)=a==a", "fn main(a) = (a == a)")
	faultAt(t, "fn main(a) = a @= = a", api.ErrSyntax)
	faultAt(t, "fn main(a) = a ==@= a", api.ErrSyntax)
	faultAt(t, "fn main(a) = a ==@== a", api.ErrSyntax)
	faultAt(t, "fn main(a) @== a", api.ErrSyntax)
	faultAt(t, "fn main(a) = @= a", api.ErrSyntax)
	faultAt(t, "fn main(a) = let b @== a; b", api.ErrSyntax)
	faultAt(t, "fn main(a) = need a @= a; a", api.ErrSyntax)
	readAs(t, "fn main(a)=a--a---a", "fn main(a) = ((a - (-a)) - (-(-a)))")
}

func TestG1Words(t *testing.T) {
	for _, name := range []string{"a", "Z", "z9", "a_", "a_b_1", "A__", "Fn", "LET", "fns", "fn_", "fn1", "iff", "lets", "needs", "thenelse", "elsewhere", "main", "abcdefghijklmnop", "abcdefghijklmn_9"} {
		readAs(t, "fn main("+name+") = let x = "+name+"; x", "fn main("+name+") = (let x = "+name+"; x)")
		readAs(t, "fn main() = let "+name+" = 1; "+name, "fn main() = (let "+name+" = 1; "+name+")")
		if name != "main" {
			readAs(t, "fn "+name+"() = 1 fn main() = "+name+"()", "fn "+name+"() = 1\nfn main() = "+name+"()")
		}
	}
	for _, word := range []string{"fn", "let", "need", "if", "then", "else"} {
		faultAt(t, "fn @"+word+"() = 1", api.ErrSyntax)
		faultAt(t, "fn main(@"+word+") = 1", api.ErrSyntax)
		faultAt(t, "fn main(a, @"+word+") = 1", api.ErrSyntax)
		faultAt(t, "fn main() = let @"+word+" = 1; 1", api.ErrSyntax)
		faultAt(t, "fn main() = 1 + @"+word, api.ErrSyntax)
	}
	faultAt(t, "@FN main() = 1", api.ErrSyntax)
	faultAt(t, "@fnmain() = 1", api.ErrSyntax)
	faultAt(t, "fn main() = @1fn f() = 1", api.ErrSyntax)
	readAs(t, "fn main()=1 fn f()=(1)fn g()=f()fn h()=1", "fn main() = 1\nfn f() = 1\nfn g() = f()\nfn h() = 1")
}

func TestG1Numbers(t *testing.T) {
	for _, n := range []string{"0", "1", "9", "10", "100", "9223372036854775807", "9223372036854775799", "999999999999999999"} {
		readAs(t, "fn main() = "+n, "fn main() = "+n)
		readAs(t, "fn main() = -"+n, "fn main() = (-"+n+")")
	}
}

func TestG1Expressions(t *testing.T) {
	for _, c := range [][2]string{
		{"1+2*3", "(1 + (2 * 3))"}, {"1*2+3", "((1 * 2) + 3)"}, {"1-2-3", "((1 - 2) - 3)"}, {"1/2/3", "((1 / 2) / 3)"},
		{"1-2+3-4", "(((1 - 2) + 3) - 4)"}, {"1/2*3/4", "(((1 / 2) * 3) / 4)"}, {"1+2/3-4*5", "((1 + (2 / 3)) - (4 * 5))"},
		{"-1*2", "((-1) * 2)"}, {"1*-2", "(1 * (-2))"}, {"-1-2", "((-1) - 2)"}, {"1--2", "(1 - (-2))"}, {"---1", "(-(-(-1)))"}, {"-(1*2)", "(-(1 * 2))"},
		{"-f(1,2)*3", "((-f(1, 2)) * 3)"}, {"1+2==3*4", "((1 + 2) == (3 * 4))"}, {"-1==-2", "((-1) == (-2))"}, {"(1==2)==3", "((1 == 2) == 3)"}, {"1==(2==3)", "(1 == (2 == 3))"},
		{"let x=1;x+2", "(let x = 1; (x + 2))"}, {"let x=1;x==2", "(let x = 1; (x == 2))"}, {"let x=1==2;x", "(let x = (1 == 2); x)"},
		{"let x=let y=1;y;x", "(let x = (let y = 1; y); x)"}, {"let x=need 1==2;3;x", "(let x = (need 1 == 2; 3); x)"}, {"let x=if 1 then 2 else 3;x", "(let x = (if 1 then 2 else 3); x)"},
		{"need 1+2==3*4;5==6", "(need (1 + 2) == (3 * 4); (5 == 6))"}, {"need(1==2)==(3==4);5", "(need (1 == 2) == (3 == 4); 5)"}, {"need 1==2;need 3==4;5", "(need 1 == 2; (need 3 == 4; 5))"},
		{"if 1==2 then 3==4 else 5==6", "(if (1 == 2) then (3 == 4) else (5 == 6))"}, {"if 1 then 2 else 3+4", "(if 1 then 2 else (3 + 4))"},
		{"if 1 then if 2 then 3 else 4 else 5", "(if 1 then (if 2 then 3 else 4) else 5)"}, {"if if 1 then 2 else 3 then 4 else 5", "(if (if 1 then 2 else 3) then 4 else 5)"},
		{"if 1 then 2 else if 3 then 4 else 5", "(if 1 then 2 else (if 3 then 4 else 5))"}, {"if let x=1;x then 2 else 3", "(if (let x = 1; x) then 2 else 3)"},
		{"if 1 then let x=2;x else 3", "(if 1 then (let x = 2; x) else 3)"}, {"if 1 then need 2==3;4 else 5", "(if 1 then (need 2 == 3; 4) else 5)"},
		{"f(let x=1;x,2==3)", "f((let x = 1; x), (2 == 3))"}, {"f(if 1 then 2 else 3,need 4==5;6)", "f((if 1 then 2 else 3), (need 4 == 5; 6))"},
		{"(let x=1;x)+2", "((let x = 1; x) + 2)"}, {"((((1))))", "1"}, {"f ( 1 , 2 )", "f(1, 2)"}, {"g()+g ( )", "(g() + g())"}, {"(f(1,2))", "f(1, 2)"},
	} {
		readAs(t, "fn main() = "+c[0]+" fn f(a, b) = a fn g() = 1", "fn main() = "+c[1]+"\nfn f(a, b) = a\nfn g() = 1")
	}
}

func TestG2WhatCannotStandThere(t *testing.T) {
	for _, marked := range []string{"@main", "@1", "@(", "@=", "@let x = 1; x", "fn @1() = 1", "fn @() = 1", "fn main @= 1", "fn main @a",
		"fn main(@1) = 1", "fn main(@,) = 1", "fn main(a @b) = 1", "fn main(a,@) = 1", "fn main(a,@,b) = 1", "fn main(a@;b) = 1", "fn main(a@(b)) = 1", "fn main(@(a)) = 1",
		"fn main() @1", "fn main() @-> 1", "fn main() @fn f() = 1"} {
		faultAt(t, marked, api.ErrSyntax)
	}
	for _, marked := range []string{
		"1@;", "1 @2", "1 @a", "1 @(2)", "a @b", "(1) @(2)", "(1) @2", "f() @(2)", "f @f()", "1@)", "f(1)@)", "1 @= 2", "@fn f() = 1", "@)", "@,", "@;", "@=", "@then", "@else",
		"(@)", "(1@,2)", "(1@;2)", "(1 @2)", "f(@,)", "f(1,@)", "f(1,@,2)", "f(1@;2)", "f(1 @2)", "(1 @fn f() = 1",
		"@+1", "@*1", "@/1", "@== 1", "1 +@+ 2", "1 *@* 2", "1 *@/ 2", "1 -@* 2", "-@+1", "1 == @== 2", "1 == 2 @== 3", "1 == 2 + 3 @== 4", "1 == 2@; 3",
		"1 + @let x = 1; x", "1 + @if 1 then 2 else 3", "1 * @need 1 == 1; 2", "-@let x = 1; x", "-@if 1 then 2 else 3", "1 == @if 1 then 2 else 3", "1 == @let x = 1; x",
		"let @1 = 2; 3", "let @(x) = 2; 3", "let x @1; 2", "let x = 1 @, 2", "let x = 1 @fn f() = 1", "let x = 1 @)", "let x = @; 2", "let x = 1; @; 2", "(let x = 1@)", "(let x = 1; x@; 2)", "let x = 1 @let y = 2; y",
		"need 1@; 2", "need 1 == 2 @== 3; 4", "need 1 == 2 @3", "need @need 1 == 1; 1 == 2; 3", "need @let x = 1; x == 1; 2", "need 1 == @if 1 then 2 else 3; 4", "need 1 + 2@, 3", "need @== 1; 2",
		"if 1 @else 2", "if 1 then 2 @then 3", "if 1 then 2@; 3", "if @then 2 else 3", "if 1 then @else 3", "if 1 then 2 else 3 @else 4", "if 1@, 2", "if 1 then 2 else @fn f() = 1", "if 1@) then 2 else 3",
	} {
		faultAt(t, "fn main() = "+marked, api.ErrSyntax)
	}
}

func TestG2WhatEndsTooEarly(t *testing.T) {
	whole := "fn main(a, b) = let c = if a == b then -a * f(a, b) else (b); need c / 2 == 1; f(c, 1) fn f(x, y) = x - y"
	for _, end := range []string{"fn", "fn main", "fn main(", "fn main(a", "fn main(a,", "fn main(a, b", "fn main(a, b)", "fn main(a, b) =", "= let", "let c", "let c =", "= if", "if a", "a ==", "== b", "then", "-", "-a", "*", "* f", "f(", "f(a", "f(a,", "f(a, b", "f(a, b)",
		"else", "else (", "(b", "(b)", "(b);", "need", "need c", "need c /", "/ 2", "2 ==", "1;", "f(c, 1", "1) fn", "fn f", "fn f(", "fn f(x, y)", "fn f(x, y) =", "x -"} {
		at := strings.Index(whole, end) + len(end)
		for _, behind := range []string{"", " ", "\n\t ", "# a remark", " # one\n  "} {
			faulty(t, whole[:at]+behind, at+len(behind), api.ErrSyntax)
		}
	}
	program(t, whole)
}

func TestG2TooLong(t *testing.T) {
	fill := func(n int) string { return "fn main() = 1#" + strings.Repeat("x", n-14) }
	program(t, fill(api.MaxText))
	program(t, fill(api.MaxText-1))
	faulty(t, fill(api.MaxText+1), 0, api.ErrFull)
	faulty(t, fill(100000), 0, api.ErrFull)
	// That is told ahead of all else.
	faulty(t, strings.Repeat("!", api.MaxText+1), 0, api.ErrFull)
	faulty(t, "fn!"+strings.Repeat("!", api.MaxText-3), 2, api.ErrSyntax)
	faulty(t, strings.Repeat(" ", api.MaxText+1), 0, api.ErrFull)
	faulty(t, strings.Repeat(" ", api.MaxText), api.MaxText, api.ErrName)
}

func TestG2GreatNumbers(t *testing.T) {
	for _, n := range []string{"9223372036854775808", "9223372036854775810", "9999999999999999999", "10000000000000000000", "18446744073709551616", "18446744073709551617", strings.Repeat("9", 3000)} {
		for _, ahead := range []string{"", "1 + ", "-", "(", "f(1, ", "let x = ", "let x = 1; ", "need ", "need 1 == ", "need 1 == 1; ", "if ", "if 1 then ", "if 1 then 2 else "} {
			faultAt(t, "fn main() = "+ahead+"@"+n, api.ErrRange)
			faultAt(t, "fn main() = "+ahead+"@"+n+" !", api.ErrRange)
		}
		// Where no number can stand, that comes first.
		for _, marked := range []string{"@", "fn @", "fn main @", "fn main(@", "fn main() = 1 @", "fn main() = a @", "fn main() = let @", "fn main() = f(1 @"} {
			faultAt(t, marked+n, api.ErrSyntax)
		}
		faultAt(t, "fn main() = @"+n+"a", api.ErrSyntax)
		faultAt(t, "fn main() = @0"+n, api.ErrSyntax)
	}
}

func TestG2LongWords(t *testing.T) {
	for _, word := range []string{"abcdefghijklmnopq", "a________________", "a1234567890123456", "maintainersofmain", strings.Repeat("if", 1000)} {
		for _, marked := range []string{"fn @", "fn main(@", "fn main(a, @", "fn main() = @", "fn main() = 1 + @", "fn main() = -@", "fn main() = (@", "fn main() = f(@", "fn main() = let @", "fn main() = let x = @", "fn main() = let x = 1; @",
			"fn main() = need @", "fn main() = need 1 == @", "fn main() = if @", "fn main() = if 1 then @", "fn main() = if 1 then 2 else @"} {
			faultAt(t, marked+word, api.ErrRange)
			faultAt(t, marked+word+"(!", api.ErrRange)
		}
		for _, marked := range []string{"@", "fn main @", "fn main(a @", "fn main() @", "fn main() = 1 @", "fn main() = f() @", "fn main() = let x @", "fn main() = if 1 @", "fn main() = need 1 @"} {
			faultAt(t, marked+word, api.ErrSyntax)
		}
	}
}

// form begins a level by its token; % stands for a number that no other one has.
type form struct{ ahead, token, behind, close string }

var forms = []form{{"", "(", "", ")"}, {"", "(", "2 * ", ")"}, {"", "-", "", ""}, {"f", "(", "", ")"}, {"g", "(", "1, ", ", 2)"},
	{"", "let", " x% = ", "; 1"}, {"", "let", " x% = 1; ", ""}, {"", "need", " 1 == 1; ", ""}, {"", "if", " ", " then 1 else 2"}, {"", "if", " 1 then ", " else 2"}, {"", "if", " 1 then 2 else ", ""}}

// open is the beginning of so many levels within one another.
func (f form) open(n int) string {
	out := ""
	for i := range n {
		out += strings.ReplaceAll(f.ahead+f.token+f.behind, "%", strconv.Itoa(i))
	}
	return out
}

// levels are so many within one another.
func (f form) levels(n int) string {
	if !strings.HasSuffix(f.behind, "* ") {
		return f.open(n) + "1" + strings.Repeat(f.close, n)
	}
	return f.open(n-1) + "(1)" + strings.Repeat(f.close, n-1)
}

func TestG2Levels(t *testing.T) {
	const head, tail = "fn main() = ", " fn f(a) = a fn g(a, b, c) = a"
	for _, f := range forms {
		program(t, head+f.levels(api.MaxNest)+tail)
		program(t, head+f.levels(api.MaxNest)+tail+" fn h() = "+f.levels(api.MaxNest))
		program(t, head+"("+f.levels(api.MaxNest-1)+") + ("+f.levels(api.MaxNest-1)+")"+tail)
		full := head + f.open(api.MaxNest)
		at := len(full) + len(f.ahead)
		faulty(t, head+f.levels(api.MaxNest+1)+tail, len(head+f.open(api.MaxNest)+f.ahead), api.ErrFull)
		// What stands behind it is not looked at, but what stands ahead of it is.
		faulty(t, full+f.ahead+f.token+" !", at, api.ErrFull)
		faulty(t, full+f.ahead+f.token, at, api.ErrFull)
		faulty(t, full+" ! "+f.ahead+f.token, len(full)+1, api.ErrSyntax)
		faulty(t, full+"1 - 9223372036854775808 "+f.ahead+f.token, len(full)+4, api.ErrRange)
	}
}

func TestG2WithinTheDeepestLevel(t *testing.T) {
	for _, f := range forms {
		full := "fn main() = " + f.open(api.MaxNest)
		faulty(t, full+"-1", len(full), api.ErrFull)
		faulty(t, full+"f()", len(full)+1, api.ErrFull)
		faulty(t, full+"(1)", len(full), api.ErrFull)
		faulty(t, full+"1 (", len(full)+2, api.ErrSyntax)
		faulty(t, full+"1 if", len(full)+2, api.ErrSyntax)
		faulty(t, full+"2 * if", len(full)+4, api.ErrSyntax)
		if f.token == "-" { // its level ends with the part behind it
			program(t, full+"2 * -1 + (2)")
			continue
		}
		faulty(t, full+"2 * -1", len(full)+4, api.ErrFull)
		faulty(t, full+"1 + (2)", len(full)+4, api.ErrFull)
	}
}

func TestG2LevelsSideBySide(t *testing.T) {
	for _, f := range forms {
		side := "f(" + strings.Repeat("("+f.levels(1)+") + ", 80) + "1)"
		program(t, "fn main() = "+side+" fn f(a) = a fn g(a, b, c) = a")
	}
	// All that stands behind let, need and if is a level further in.
	lets := "fn main() = " + forms[6].open(api.MaxNest-1)
	program(t, lets+"-1")
	program(t, lets+"(1) + (2) - -3")
	faulty(t, lets+"--1", len(lets)+1, api.ErrFull)
	faulty(t, lets+"1 + (2 * -1)", len(lets)+9, api.ErrFull)
	for _, ahead := range []string{"let y = (1); ", "let y = 1; ", "need (1) == ", "need 1 == (1); ", "if (1) then ", "if (1) then (1) else "} {
		text := "fn main() = (" + forms[6].open(api.MaxNest-3) + ahead
		faulty(t, text+"((1))", len(text)+1, api.ErrFull)
	}
}

func TestG2Names(t *testing.T) {
	for _, marked := range []string{
		"fn main() = 1 fn @main() = 2", "fn main() = 1 fn f() = 2 fn @f(a) = 3", "fn main() = 1 fn @main(a) = 2 fn f(a, a) = a", "fn f() = 1 fn @f(a, a) = zz",
		"fn main(a, @a) = 1", "fn main(a, b, c, @b, a) = zz", "fn main(a, @a) = 1 fn main() = 2",
		"fn main(a) = let @a = 1; a", "fn main(a) = let @a = a; a", "fn main(a) = let @a = zz; a", "fn main() = let a = 1; let @a = 2; a", "fn main() = let a = 1; 1 + (let b = 2; let @a = 3; b)",
		"fn main(a) = let b = let @a = 1; a; b", "fn main(a) = f(1, let @a = 2; a) fn f(a, b) = a", "fn main(a) = if 1 then 2 else let @a = 1; a", "fn main() = let a = 1; need a == 1; let @a = 2; a",
		"fn main() = let a = 1; let b = let @a = 2; a; b", "fn main() = 1 fn f(a) = let @a = 1; a",
	} {
		faultAt(t, marked, api.ErrSame)
	}
	for _, marked := range []string{
		"fn main() = @a", "fn main(a) = @b", "fn main() = @main", "fn main() = @f fn f() = 1", "fn main(a) = 1 fn f() = @a", "fn main() = 1 + 2 * -@x", "fn main(a) = a + @A",
		"fn main() = let a = @a; a", "fn main() = let a = 1 + (let b = @a; b); a", "fn main() = (let a = 1; a) + @a", "fn main() = let b = let a = 1; a; @a", "fn main() = f(let a = 1; a, @a) fn f(a, b) = a",
		"fn main() = if let a = 1; a then @a else 2", "fn main() = if 1 then let a = 1; a else @a", "fn main() = need (let a = 1; a) == @a; 2", "fn main() = need (let a = 1; a) == 1; @a",
		"fn main() = @f()", "fn main() = @f(zz)", "fn main() = @f(1) fn f() = 1", "fn main() = @f() fn f(a) = 1", "fn main() = @f(1, 2) fn f(a) = 1", "fn main() = @main(1)", "fn main(a) = @main()", "fn main(f) = @f()", "fn main() = let f = 1; @f()",
		"fn main() = @a fn main() = 2", "fn main(a) = a + @b + (let a = 1; a)", "fn main() = 1 fn f() = @F()",
	} {
		faultAt(t, marked, api.ErrName)
	}
}

func TestG2NamesThatAreNoFault(t *testing.T) {
	for _, text := range []string{
		"fn main(main) = main(main)", "fn f(f) = f fn main() = f(1)", "fn main(f) = f(f) fn f(a) = a", "fn main() = let main = main(); main", "fn main() = let f = 1; f(f) fn f(g) = g",
		"fn main() = (let a = 1; a) + (let a = 2; a)", "fn main() = let a = let a = 1; a; a", "fn main() = let a = (let a = 1; a) + (let a = 2; a); a", "fn main() = if let a = 1; a then let a = 2; a else let a = 3; a",
		"fn main() = need (let a = 1; a) == (let a = 1; a); let a = 1; a", "fn main() = f(let a = 1; a, let a = 2; a) fn f(a, b) = let c = a; b", "fn f(a) = a fn main(a) = let b = f(a); b", "fn main() = f() fn f() = g() fn g() = main()",
		"fn main() = let b = 1; let a = let c = b; c; let c = a; c",
	} {
		program(t, text)
	}
}

func TestG2CallsOfFunctionsWithOneName(t *testing.T) {
	// The call is none of the faults: there is such a function.
	faultAt(t, "fn main() = f(1) fn f() = 1 fn @f(a) = 1", api.ErrSame)
	faultAt(t, "fn main() = f() fn f() = 1 fn @f(a) = 1", api.ErrSame)
	faultAt(t, "fn main() = @f(1, 2) fn f() = 1 fn f(a) = 1", api.ErrName)
	faultAt(t, "fn main() = f(1, 2) fn f(a, @a) = 1", api.ErrSame)
	faultAt(t, "fn main() = @f(1) fn f(a, a) = 1", api.ErrName)
}

func TestG2NoMain(t *testing.T) {
	for _, text := range []string{"", " ", "# fn main() = 1", "fn f() = 1", "fn f(main) = main", "fn Main() = 1 # main\n ", "fn f() = let main = 1; main"} {
		faulty(t, text, len(text), api.ErrName)
	}
	// It comes last.
	faultAt(t, "fn f() = @main()", api.ErrName)
	faultAt(t, "fn f(a, @a) = 1", api.ErrSame)
	program(t, "fn f() = main(1) fn main(a) = f()")
}

func TestG2FaultsOfNamesComeLater(t *testing.T) {
	faultAt(t, "fn main() = a fn main(a, a) = @007", api.ErrSyntax)
	faultAt(t, "fn f() = a + @9223372036854775808", api.ErrRange)
	faultAt(t, "fn f() = a + @abcdefghijklmnopq", api.ErrRange)
	faultAt(t, "fn f() = g() + "+forms[0].open(api.MaxNest)+"@(", api.ErrFull)
	faultAt(t, "fn f(a, a) = let a = 1; a@;", api.ErrSyntax)
	// Of other faults the leftmost counts, whichever it is.
	faultAt(t, "fn f() = @9223372036854775808 + abcdefghijklmnopq 007", api.ErrRange)
	faultAt(t, "fn f() = @abcdefghijklmnopq + 9223372036854775808 !", api.ErrRange)
	faultAt(t, "fn f() = @007 + 9223372036854775808", api.ErrSyntax)
}
