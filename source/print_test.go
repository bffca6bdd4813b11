package source_test

import (
	"strings"
	"testing"

	"attest/source"
)

func TestG3Expressions(t *testing.T) {
	for _, c := range [][2]string{
		{"((1))", "1"}, {"(a)", "a"}, {"(f((1),(a)))", "f(1, a)"}, {"g ( )", "g()"}, {"-(a)", "-a"}, {"-(-(a))", "--a"}, {"- - -(1)", "---1"}, {"-(f(1,2))", "-f(1, 2)"},
		{"(a+b)+1", "a + b + 1"}, {"a+(b+1)", "a + (b + 1)"}, {"(a-b)-1", "a - b - 1"}, {"a-(b-1)", "a - (b - 1)"}, {"a-(b+1)", "a - (b + 1)"}, {"a+(b-1)", "a + (b - 1)"}, {"(a-b)+1", "a - b + 1"},
		{"(a*b)*1", "a * b * 1"}, {"a*(b*1)", "a * (b * 1)"}, {"(a/b)/1", "a / b / 1"}, {"a/(b/1)", "a / (b / 1)"}, {"a*(b/1)", "a * (b / 1)"}, {"(a/b)*1", "a / b * 1"},
		{"(a*b)+1", "a * b + 1"}, {"a*(b+1)", "a * (b + 1)"}, {"(a+b)*1", "(a + b) * 1"}, {"a+(b*1)", "a + b * 1"}, {"(a-b)/(b-a)", "(a - b) / (b - a)"}, {"a-(b/1)", "a - b / 1"},
		{"(-a)*b", "-a * b"}, {"-(a*b)", "-(a * b)"}, {"a*(-b)", "a * -b"}, {"a-(-b)", "a - -b"}, {"(-a)-b", "-a - b"}, {"-(a-b)", "-(a - b)"}, {"-(a/b)/(-1)", "-(a / b) / -1"},
		{"(a+b)==(b*1)", "a + b == b * 1"}, {"(a==b)==1", "(a == b) == 1"}, {"a==(b==1)", "a == (b == 1)"}, {"(a==b)+1", "(a == b) + 1"}, {"a*(b==1)", "a * (b == 1)"}, {"-(a==b)", "-(a == b)"},
		{"let x=(a==b);(x==1)", "let x = a == b; x == 1"}, {"let x=(let y=a;y);(let z=x;z)", "let x = let y = a; y; let z = x; z"}, {"(let x=a;x)==b", "(let x = a; x) == b"}, {"a==(let x=a;x)", "a == (let x = a; x)"},
		{"(let x=a;x)*b", "(let x = a; x) * b"}, {"a*(let x=a;x)", "a * (let x = a; x)"}, {"a+(let x=a;x)", "a + (let x = a; x)"}, {"-(let x=a;x)", "-(let x = a; x)"},
		{"need (a+b)==(b*1);(a==b)", "need a + b == b * 1; a == b"}, {"need (a==b)==(1==2);a", "need (a == b) == (1 == 2); a"}, {"need (need a==b;a)==(let x=a;x);need 1==1;2", "need (need a == b; a) == (let x = a; x); need 1 == 1; 2"},
		{"(need a==b;1)-2", "(need a == b; 1) - 2"}, {"2-(need a==b;1)", "2 - (need a == b; 1)"}, {"need (if a then b else 1)==2;3", "need (if a then b else 1) == 2; 3"},
		{"if(a==b)then(a==1)else(b==1)", "if a == b then a == 1 else b == 1"}, {"if(if a then b else 1)then(if a then b else 2)else(if a then b else 3)", "if if a then b else 1 then if a then b else 2 else if a then b else 3"},
		{"(if a then b else 1)+2", "(if a then b else 1) + 2"}, {"2+(if a then b else 1)", "2 + (if a then b else 1)"}, {"if a then b else (1+2)", "if a then b else 1 + 2"}, {"if(let x=a;x)then(need a==b;1)else(let y=a;y)", "if let x = a; x then need a == b; 1 else let y = a; y"},
		{"f((let x=a;x),(a==b))", "f(let x = a; x, a == b)"}, {"f((if a then b else 1),(need a==b;1))", "f(if a then b else 1, need a == b; 1)"}, {"f((a+b),(-a))", "f(a + b, -a)"},
		{"0-0", "0 - 0"}, {"-0", "-0"}, {"9223372036854775807", "9223372036854775807"}, {"(1)#x\n+\t(2)", "1 + 2"},
	} {
		const tail = "\nfn f(a, b) = 1\nfn g() = 2\n"
		p := program(t, "fn main(a,b)="+c[0]+tail)
		same(t, p.Print(), "fn main(a, b) = "+c[1]+tail, "Print of %q", c[0])
		same(t, program(t, p.Print()).Full(), p.Full(), "what Print of %q is read as", c[0])
	}
}

func TestG3Functions(t *testing.T) {
	p := program(t, "fn z(a,bb , c)=a fn main()=z(1,2,3)\n\n#x\nfn A1_(x)=x fn b()=0")
	same(t, p.Print(), "fn z(a, bb, c) = a\nfn main() = z(1, 2, 3)\nfn A1_(x) = x\nfn b() = 0\n", "Print")
	same(t, strings.Join(p.Functions(), "|"), "z|main|A1_|b", "Functions")
	same(t, p.Args(), 0, "Args")
	same(t, p.Weight(), 4+4+2+1, "Weight")
	for n, text := range []string{"fn f(a, b) = a fn main() = 1", "fn main(a) = a fn f() = 1", "fn f() = 1 fn main(a, b) = 1", "fn main(main, f, g) = 1"} {
		same(t, program(t, text).Args(), n, "Args of %q", text)
	}
}

func TestG3Weight(t *testing.T) {
	for _, c := range []struct {
		text   string
		weight int
	}{
		{"fn main() = 1", 1}, {"fn main() = ((1))", 1}, {"fn main(a) = a", 2}, {"fn main(a, b) = 1", 3}, {"fn main() = -1", 2}, {"fn main() = -(-1)", 3},
		{"fn main() = 1 + 2", 3}, {"fn main() = 1 - 2 * 3 / 4", 7}, {"fn main() = 1 == 2", 3}, {"fn main() = let x = 1; x", 3}, {"fn main() = need 1 == 2; 3", 4}, {"fn main() = need (1 == 2) == 3; 4", 6},
		{"fn main() = if 1 then 2 else 3", 4}, {"fn main() = main()", 1}, {"fn main(a) = main(a)", 3}, {"fn main(a) = main(main(a + 1))", 6}, {"fn f() = 1 fn g(a) = a fn main() = g(f())", 5},
		{factorial, 10},
	} {
		same(t, program(t, c.text).Weight(), c.weight, "Weight of %q", c.text)
	}
}

// pairs gives, for each opening bracket of a text that Print wrote, where it and its closing one are.
func pairs(text string) [][2]int {
	var open []int
	var all [][2]int
	for i, c := range []byte(text) {
		switch c {
		case '(':
			open = append(open, i)
		case ')':
			all = append(all, [2]int{open[len(open)-1], i})
			open = open[:len(open)-1]
		}
	}
	return all
}

// noneNeedless sees that without any of the brackets that Print writes it would not be the same program.
func noneNeedless(t *testing.T, p *source.Program) {
	t.Helper()
	text := p.Print()
	again, _, err := source.Parse(text)
	if err != nil || again.Full() != p.Full() || again.Print() != text {
		t.Fatalf("what Print gives, %q, is read as another program, or none: error %v", text, err)
	}
	for _, pair := range pairs(text) {
		bare := text[:pair[0]] + " " + text[pair[0]+1:pair[1]] + " " + text[pair[1]+1:]
		if other, _, err := source.Parse(bare); err == nil && other.Full() == p.Full() {
			t.Fatalf("the brackets at %d and %d of %q are needless", pair[0], pair[1], text)
		}
	}
}

func TestG3BracketsOfAllPairs(t *testing.T) {
	// Each kind of expression as each part of each kind.
	forms := []string{"1", "a", "g()", "f(%, %)", "-%", "% + %", "% - %", "% * %", "% / %", "% == %", "let x = %; %", "need % == %; %", "if % then % else %"}
	for _, outer := range forms {
		for place := range strings.Count(outer, "%") {
			for _, inner := range forms {
				text := outer
				for i := range strings.Count(outer, "%") {
					part := "(b)"
					if i == place {
						part = "(" + strings.ReplaceAll(strings.ReplaceAll(inner, "x", "y"), "%", "(2)") + ")"
					}
					text = strings.Replace(text, "%", part, 1)
				}
				noneNeedless(t, program(t, "fn main(a, b) = "+text+" fn f(a, b) = 1 fn g() = 2"))
			}
		}
	}
}
