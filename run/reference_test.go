package run_test

import (
	"fmt"
	"regexp"
	"strconv"
	"strings"

	"attest/api"
	"attest/field"
	"attest/lower"
	"attest/machine"
	"attest/plain"
	"attest/rules"
	"attest/source"
	"attest/whole"
)

const (
	numberForm = `(?:0|-?[1-9][0-9]{0,8})`
	opForm     = `(?:halt|add|sub|mul|div|set|same|must|jump|zero|call|back|take|pass)`
)

var (
	lineForm = regexp.MustCompile(`\A(?:show|weigh|(?:field|walk|table) N|(?:eval|run) N(?: N)*|vouch N N|code N(?: OP N N N)*)\z`)
	realForm = regexp.MustCompile(strings.NewReplacer("OP", opForm, "N", numberForm).Replace(lineForm.String()))
	opOrder  = strings.Fields("halt add sub mul div set same must jump zero call back take pass")
)

// heard is a session by the document's words, line by line.
type heard struct {
	p *source.Program
	f *field.Field
	c api.Code
}

// wanted is the answer to a session.
func wanted(text string) string {
	if len(text) > 8000 {
		return "error ErrFull\n"
	}
	lines := strings.Split(text, "\n")
	between := len(lines)
	for i := len(lines) - 1; i >= 0; i-- {
		if lines[i] == "----" {
			between = i
		}
	}
	p, at, err := source.Parse(strings.Join(lines[:between], "\n"))
	if err != nil {
		return fmt.Sprintf("error %v at %d\n", plain.Told(err), at)
	}
	f, _ := field.New(97)
	h := &heard{p: p, f: f, c: api.Code{List: []api.Ins{{}}}}
	out := ""
	for i := between + 1; i < len(lines); i++ {
		if i == len(lines)-1 && lines[i] == "" {
			break
		}
		answer, err := h.answer(lines[i])
		if err != nil {
			answer = fmt.Sprintf("error %v\n", plain.Told(err))
		}
		out += answer
	}
	return out
}

// answer gives that to a line.
func (h *heard) answer(line string) (string, error) {
	if !realForm.MatchString(line) {
		return "", api.ErrSyntax
	}
	words := strings.Fields(line)
	var n []int
	for _, w := range words {
		if k, err := strconv.Atoi(w); err == nil {
			n = append(n, k)
		}
	}
	switch words[0] {
	case "show":
		return h.p.Print(), nil
	case "weigh":
		return fmt.Sprintf("functions %d args %d weight %d\n", len(h.p.Functions()), h.p.Args(), h.p.Weight()), nil
	case "field":
		f, err := field.New(n[0])
		if err == nil {
			h.f = f
			return fmt.Sprintf("generator %d\n", f.Generator()), nil
		}
		return "", err
	case "eval":
		v, err := h.p.Eval(h.f, n[1:], n[0])
		return fmt.Sprintf("%d of %d parts\n", v.Is, v.Parts), err
	case "run":
		return h.run(n[0], n[1:])
	case "code":
		h.c = api.Code{Size: n[0]}
		for i := 2; i < len(words); i += 4 {
			in := api.Ins{A: n[3*len(h.c.List)+1], B: n[3*len(h.c.List)+2], C: n[3*len(h.c.List)+3]}
			for opOrder[in.Op] != words[i] {
				in.Op++
			}
			h.c.List = append(h.c.List, in)
		}
		return fmt.Sprintf("%d instructions\n", len(h.c.List)), nil
	case "walk":
		r, err := machine.Run(h.f, h.c, n[0])
		return fmt.Sprintf("outcome %d steps %d cells %d\n", r.Outcome, r.Steps, len(r.Cells)), err
	case "table":
		rows, outcome, err := rules.Table(h.f, h.c, n[0])
		out := fmt.Sprintf("outcome %d\n", outcome)
		for _, row := range rows {
			out += strings.Trim(fmt.Sprint(row), "[]") + "\n"
		}
		return out, err
	}
	v, outcome, err := whole.Make(h.f, h.c, n[0], n[1])
	return fmt.Sprintf("outcome %d tries %d bytes %d\n", outcome, v.Tries, len(whole.Bytes(v))), err
}

// run gives the answer to a line that begins with it.
func (h *heard) run(fuel int, args []int) (string, error) {
	v, err := h.p.Eval(h.f, args, fuel)
	if err != nil {
		return "", err
	}
	p, weight, names := h.f.P(), h.p.Weight(), h.p.Args()
	if n := 10*weight + 2*names + 10; n > 4096 || n > p {
		return "", api.ErrRange
	}
	if (v.Parts+2)*(weight+names+8) >= p || 10*(v.Parts+names+2) > 16384 {
		return "", api.ErrRange
	}
	c, err := lower.Code(h.f, h.p)
	if err != nil {
		return "", err
	}
	c, err = lower.With(h.f, c, args)
	if err != nil {
		return "", err
	}
	r, err := machine.Run(h.f, c, 10*(v.Parts+names+2))
	if err == nil && r.Outcome != v.Is {
		panic("a program that comes to something else as code")
	}
	return fmt.Sprintf("outcome %d\n", r.Outcome), err
}
