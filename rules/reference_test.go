package rules_test

import (
	"go/ast"
	"go/parser"
	"go/token"
	"slices"
	"strconv"
	"strings"

	"attest/api"
)

// What R2 says is 0, in its own words: of an instruction whose number is k and whose Op is the key. What is the next row's
// has the letter n ahead. Under -1 stands what is so of all others.
var (
	cellTerms = [3]map[int]string{
		{1: "fp+A", 2: "fp+A", 3: "fp+A", 4: "fp+A", 5: "fp+A", 6: "fp+A", 7: "fp+A", 9: "fp+A", 10: "ap", 11: "fp-2", 12: "fp+A", 13: "fp+A", 0: "fp+A", -1: "0"},
		{1: "fp+B", 2: "fp+B", 3: "fp+B", 4: "fp+B", 6: "fp+B", 7: "fp+B", 10: "ap+1", 11: "fp-1", 13: "ap+2+B", -1: "0"},
		{1: "fp+C", 2: "fp+C", 3: "fp+C", 4: "fp+C", 6: "fp+C", 11: "fp+A", -1: "0"},
	}
	workTerms = map[int]string{1: "v0+v1-v2", 2: "v0-v1-v2", 3: "v0*v1-v2", 4: "v2*v1-v0", 5: "v0-B", 6: "(v0-v1)*h-(1-v2)", 7: "v0-v1",
		9: "v0*(1-h*v0)", 10: "v0-fp", 12: "v0-rv", 13: "v0-v1", 0: "0", 8: "0", 11: "0", -1: "1"}
	moreTerms = map[int]string{4: "h*v1-1", 6: "v2*(v0-v1)", 10: "v1-(k+1)", -1: "0"}
	pcTerms   = map[int]string{0: "k", 8: "A", 9: "(1-h*v0)*B+h*v0*(k+1)", 10: "A", 11: "v1", -1: "k+1"}
	fpTerms   = map[int]string{10: "ap+2", 11: "v0", -1: "fp"}
	apTerms   = map[int]string{10: "ap+2+B", -1: "ap"}
	rvTerms   = map[int]string{11: "v2", -1: "rv"}
	haltTerms = map[int]string{0: "1", -1: "0"}
	columns   = strings.Fields("fp ap rv a0 a1 a2 a3 v0 v1 v2 v3 h b0 b1 b2 b3 w0 w1 w2 w3")
	pairTexts = []string{
		"(b1-b0)*(b1-b0-1)", "(b1-b0-1)*(w1-w0)", "(b2-b1)*(b2-b1-1)", "(b2-b1-1)*(w2-w1)", "(b3-b2)*(b3-b2-1)", "(b3-b2-1)*(w3-w2)",
	}
	nextPairTexts = []string{"(nb0-b3)*(nb0-b3-1)", "(nb0-b3-1)*(nw0-w3)"}
	firstTexts    = []string{"s0-1", "fp-1", "ap-1-Size", "rv", "b0", "w0"}
)

// reading is what a text is read in: a row, the next one, and what else has a name.
type reading struct {
	p         int
	c         api.Code
	outcome   int
	row, next []int
	in        api.Ins
	k         int
}

var read = map[string]ast.Expr{}

// value is what a text comes to.
func (r reading) value(text string) int {
	if read[text] == nil {
		e, err := parser.ParseExpr(text)
		if err != nil {
			panic(err)
		}
		read[text] = e
	}
	return r.of(read[text])
}

func (r reading) of(e ast.Expr) int {
	switch x := e.(type) {
	case *ast.ParenExpr:
		return r.of(x.X)
	case *ast.BasicLit:
		n, _ := strconv.Atoi(x.Value)
		return element(n, r.p)
	case *ast.Ident:
		return element(r.named(x.Name), r.p)
	case *ast.BinaryExpr:
		a, b := r.of(x.X), r.of(x.Y)
		return element(map[token.Token]int{token.ADD: a + b, token.SUB: a - b, token.MUL: a * b}[x.Op], r.p)
	}
	panic("no expression")
}

func (r reading) named(name string) int {
	if i := slices.Index(columns, name); i >= 0 {
		return r.row[i]
	}
	if i := slices.Index(columns, name[1:]); name[0] == 'n' && i >= 0 {
		return r.next[i]
	}
	switch name {
	case "A":
		return r.in.A
	case "B":
		return r.in.B
	case "C":
		return r.in.C
	case "k":
		return r.k
	case "s0":
		return r.row[20]
	case "Size":
		return r.c.Size
	case "outcome":
		return r.outcome
	}
	panic("no name: " + name)
}

func element(n, p int) int { return (n%p + p) % p }

// sum is that of s times a term, over all instructions.
func (r reading) sum(s []int, terms map[int]string) int {
	out := 0
	for k, in := range r.c.List {
		text, ok := terms[in.Op]
		if in.Op < 0 || !ok {
			text = terms[-1]
		}
		r.in, r.k = in, k
		out = element(out+element(s[20+k], r.p)*r.value(text), r.p)
	}
	return out
}

// says is what the rule of a number says is 0, and of which rows: 0 all, 1 all but the last, 2 the first, 3 the last.
func (r reading) says(rule int) (is, rows int) {
	l := len(r.c.List)
	if rule < l {
		s := element(r.row[20+rule], r.p)
		return element(s*s-s, r.p), 0
	}
	switch n := rule - l; {
	case n == 0:
		return element(r.sum(r.row, map[int]string{-1: "1"})-1, r.p), 0
	case n < 4:
		return element(element(r.row[2+n], r.p)-r.sum(r.row, cellTerms[n-1]), r.p), 0
	case n == 4:
		return r.sum(r.row, workTerms), 0
	case n == 5:
		return r.sum(r.row, moreTerms), 0
	case n < 12:
		return r.value(pairTexts[n-6]), 0
	case n == 12:
		return element(r.sum(r.next, map[int]string{-1: "k"})-r.sum(r.row, pcTerms), r.p), 1
	case n < 16:
		return element(element(r.next[n-13], r.p)-r.sum(r.row, [3]map[int]string{fpTerms, apTerms, rvTerms}[n-13]), r.p), 1
	case n < 18:
		return r.value(nextPairTexts[n-16]), 1
	case n < 24:
		return r.value(firstTexts[n-18]), 2
	case n == 24:
		return element(r.sum(r.row, haltTerms)-1, r.p), 3
	}
	return r.value("v0-outcome"), 3
}

// firstBroken is what Broken answers of rows that have the width.
func firstBroken(p int, c api.Code, outcome int, rows [][]int) api.Broken {
	for rule := range len(c.List) + 26 {
		for i := range rows {
			r := reading{p: p, c: c, outcome: outcome, row: rows[i], next: rows[(i+1)%len(rows)]}
			is, of := r.says(rule)
			last := len(rows) - 1
			if is != 0 && [4]bool{true, i != last, i == 0, i == last}[of] {
				return api.Broken{Rule: rule, Row: i}
			}
		}
	}
	return api.Broken{Rule: -1}
}
