package run

import (
	"strconv"
	"strings"

	"attest/api"
	"attest/field"
	"attest/lower"
	"attest/machine"
	"attest/rules"
	"attest/source"
	"attest/whole"
)

// session is what lines are asked of, and what they set.
type session struct {
	p *source.Program
	f *field.Field
	c api.Code
}

// begun is a session in which nothing was set.
func begun(p *source.Program) (*session, error) {
	f, err := field.New(97)
	if err != nil {
		return nil, err
	}
	return &session{p: p, f: f, c: api.Code{List: []api.Ins{{Op: api.OpHalt}}}}, nil
}

// answers gives those to all lines.
func (s *session) answers(asked string) string {
	var out strings.Builder
	for line := range strings.Lines(asked) {
		answer, err := s.answer(strings.Split(strings.TrimSuffix(line, "\n"), " "))
		if err != nil {
			answer = fault(err) + "\n"
		}
		out.WriteString(answer)
	}
	return out.String()
}

// answer gives that to a line of some words, of which there is one at least.
func (s *session) answer(words []string) (string, error) {
	word := words[0]
	if word == "code" {
		return s.setCode(words[1:])
	}
	n, ok := numbers(words[1:])
	switch {
	case !ok:
		return "", api.ErrSyntax
	case word == "show" && len(n) == 0:
		return s.p.Print(), nil
	case word == "weigh" && len(n) == 0:
		return s.weigh(), nil
	case word == "field" && len(n) == 1:
		return s.setField(n[0])
	case word == "eval" && len(n) >= 1:
		return s.eval(n[0], n[1:])
	case word == "run" && len(n) >= 1:
		return s.run(n[0], n[1:])
	case word == "walk" && len(n) == 1:
		return s.walk(n[0])
	case word == "table" && len(n) == 1:
		return s.table(n[0])
	case word == "vouch" && len(n) == 2:
		return s.vouch(n[0], n[1])
	}
	return "", api.ErrSyntax
}

// weigh tells how great the program is.
func (s *session) weigh() string {
	return "functions " + strconv.Itoa(len(s.p.Functions())) +
		" args " + strconv.Itoa(s.p.Args()) +
		" weight " + strconv.Itoa(s.p.Weight()) + "\n"
}

// setField sets the field.
func (s *session) setField(prime int) (string, error) {
	f, err := field.New(prime)
	if err != nil {
		return "", err
	}
	s.f = f
	return "generator " + strconv.Itoa(f.Generator()) + "\n", nil
}

// setCode sets the code, of which the first word is the size.
func (s *session) setCode(words []string) (string, error) {
	c, ok := code(words)
	if !ok {
		return "", api.ErrSyntax
	}
	s.c = c
	return strconv.Itoa(len(c.List)) + " instructions\n", nil
}

// eval tells what the program comes to by itself.
func (s *session) eval(fuel int, args []int) (string, error) {
	value, err := s.p.Eval(s.f, args, fuel)
	if err != nil {
		return "", err
	}
	return strconv.Itoa(value.Is) + " of " + strconv.Itoa(value.Parts) + " parts\n", nil
}

// run tells what the program comes to as code.
func (s *session) run(fuel int, args []int) (string, error) {
	value, err := s.p.Eval(s.f, args, fuel)
	if err != nil {
		return "", err
	}
	limit := 10 * (value.Parts + len(args) + 2)
	if !s.hasCode() || !s.hasRoom(value.Parts) || limit > api.MaxSteps {
		return "", api.ErrRange
	}
	c, err := lower.Code(s.f, s.p)
	if err != nil {
		return "", err
	}
	c, err = lower.With(s.f, c, args)
	if err != nil {
		return "", err
	}
	ran, err := machine.Run(s.f, c, limit)
	if err != nil {
		return "", err
	}
	return outcome(ran.Outcome) + "\n", nil
}

// hasCode tells whether N1 says that the program has code over the field. What code it is, and so whether another one had none, is not said.
func (s *session) hasCode() bool {
	most := 10*s.p.Weight() + 2*s.p.Args() + 10
	return most <= api.MaxCode && most <= s.f.P()
}

// hasRoom tells whether the field has as many cells as N2 asks for, where so many parts are looked at.
func (s *session) hasRoom(parts int) bool {
	return (parts+2)*(s.p.Weight()+s.p.Args()+8) < s.f.P()
}

// walk tells what the code comes to.
func (s *session) walk(limit int) (string, error) {
	ran, err := machine.Run(s.f, s.c, limit)
	if err != nil {
		return "", err
	}
	return outcome(ran.Outcome) +
		" steps " + strconv.Itoa(ran.Steps) +
		" cells " + strconv.Itoa(len(ran.Cells)) + "\n", nil
}

// table tells the rows that show a run of the code.
func (s *session) table(n int) (string, error) {
	rows, is, err := rules.Table(s.f, s.c, n)
	if err != nil {
		return "", err
	}
	var out strings.Builder
	out.WriteString(outcome(is) + "\n")
	for _, row := range rows {
		out.WriteString(written(row) + "\n")
	}
	return out.String(), nil
}

// vouch makes a voucher for the code.
func (s *session) vouch(n, asked int) (string, error) {
	v, is, err := whole.Make(s.f, s.c, n, asked)
	if err != nil {
		return "", err
	}
	return s.vouched(v, is, n, asked), nil
}

// vouched tells of a voucher what it is like, if it is taken.
func (s *session) vouched(v api.Voucher, is, n, asked int) string {
	if !whole.Check(s.f, s.c, is, n, asked, v) {
		return "not taken\n"
	}
	return outcome(is) +
		" tries " + strconv.Itoa(v.Tries) +
		" bytes " + strconv.Itoa(len(whole.Bytes(v))) + "\n"
}

// outcome tells one.
func outcome(is int) string { return "outcome " + strconv.Itoa(is) }

// written is a row as text.
func written(row []int) string {
	words := make([]string, len(row))
	for i, n := range row {
		words[i] = strconv.Itoa(n)
	}
	return strings.Join(words, " ")
}
