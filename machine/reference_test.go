package machine_test

import (
	"fmt"
	"math"
	"math/rand"
	"slices"
	"testing"

	"attest/api"
	"attest/machine"
	"attest/plain"
)

func element(n, p int) int { return (n%p + p) % p }

func power(a, n, p int) int {
	out := 1
	for ; n > 0; n /= 2 {
		if n%2 == 1 {
			out = out * a % p
		}
		a = a * a % p
	}
	return out
}

// table of M2: for each Op what it looks at, what it tells, and which cells are its cells, in words: A B C are fp + A, fp + B,
// fp + C; a and b are ap and ap + 1; x and y are fp - 2 and fp - 1; P is ap + 2 + B.
var table = []struct{ looks, tells, cells string }{
	api.OpHalt: {"A", "", "A"},
	api.OpAdd:  {"AB", "C", "ABC"},
	api.OpSub:  {"AB", "C", "ABC"},
	api.OpMul:  {"AB", "C", "ABC"},
	api.OpDiv:  {"AB", "C", "ABC"},
	api.OpSet:  {"", "A", "A"},
	api.OpSame: {"AB", "C", "ABC"},
	api.OpMust: {"AB", "", "AB"},
	api.OpJump: {"", "", ""},
	api.OpZero: {"A", "", "A"},
	api.OpCall: {"", "ab", "ab"},
	api.OpBack: {"xyA", "", "xyA"},
	api.OpTake: {"", "A", "A"},
	api.OpPass: {"A", "P", "AP"},
}

// reference does what M1 to M4 say, word by word.
type reference struct {
	p              int
	cells          map[int]int
	pc, fp, ap, rv int
	steps          []api.Step
}

func (r *reference) at(letter rune, in api.Ins) int {
	a, b, c := element(in.A, r.p), element(in.B, r.p), element(in.C, r.p)
	return element(map[rune]int{'A': r.fp + a, 'B': r.fp + b, 'C': r.fp + c, 'a': r.ap, 'b': r.ap + 1,
		'x': r.fp - 2, 'y': r.fp - 1, 'P': r.ap + 2 + b}[letter], r.p)
}

// told gives what an instruction tells, of what it looked at; -1: there is no next step.
func (r *reference) told(in api.Ins, is []int) []int {
	p := r.p
	switch in.Op {
	case api.OpAdd:
		return []int{(is[0] + is[1]) % p}
	case api.OpSub:
		return []int{element(is[0]-is[1], p)}
	case api.OpMul:
		return []int{is[0] * is[1] % p}
	case api.OpDiv:
		if is[1] == 0 {
			return []int{-1}
		}
		return []int{is[0] * power(is[1], p-2, p) % p}
	case api.OpSet:
		return []int{element(in.B, p)}
	case api.OpSame:
		if is[0] == is[1] {
			return []int{1}
		}
		return []int{0}
	case api.OpMust:
		if is[0] != is[1] {
			return []int{-1}
		}
	case api.OpCall:
		return []int{r.fp, (r.pc + 1) % p}
	case api.OpTake:
		return []int{r.rv}
	case api.OpPass:
		return []int{is[0]}
	}
	return nil
}

// step does an instruction, and tells what is wrong with it.
func (r *reference) step(in api.Ins) api.Errno {
	if in.Op < 0 || in.Op >= len(table) {
		return api.ErrStuck
	}
	s := api.Step{PC: r.pc, FP: r.fp, AP: r.ap, RV: r.rv}
	var is []int
	for _, letter := range table[in.Op].looks {
		n, ok := r.cells[r.at(letter, in)]
		if !ok {
			return api.ErrBlank
		}
		is = append(is, n)
	}
	told := r.told(in, is)
	if len(told) > 0 && told[0] == -1 {
		return api.ErrStuck
	}
	for i, letter := range table[in.Op].tells {
		at := r.at(letter, in)
		if n, ok := r.cells[at]; ok && n != told[i] {
			return api.ErrStuck
		}
		r.cells[at] = told[i]
	}
	for i, letter := range table[in.Op].cells {
		s.At[i] = r.at(letter, in)
		s.Is[i] = r.cells[s.At[i]]
	}
	r.steps = append(r.steps, s)
	r.registers(in, is)
	return api.OK
}

func (r *reference) registers(in api.Ins, is []int) {
	r.pc = (r.pc + 1) % r.p
	switch {
	case in.Op == api.OpJump:
		r.pc = element(in.A, r.p)
	case in.Op == api.OpZero && is[0] == 0:
		r.pc = element(in.B, r.p)
	case in.Op == api.OpCall:
		r.fp, r.ap, r.pc = (r.ap+2)%r.p, (r.ap+2+element(in.B, r.p))%r.p, element(in.A, r.p)
	case in.Op == api.OpBack:
		r.fp, r.pc, r.rv = is[0], is[1], is[2]
	}
}

// run goes on till OpHalt, or till something is wrong.
func (r *reference) run(c api.Code, limit int) api.Errno {
	for {
		if r.pc >= len(c.List) {
			return api.ErrStuck
		}
		in := c.List[r.pc]
		if len(r.steps) == limit && in.Op != api.OpHalt {
			return api.ErrLong
		}
		if e := r.step(in); e != api.OK {
			return e
		}
		if in.Op == api.OpHalt {
			return api.OK
		}
	}
}

// ran gives what Run is to answer.
func (r *reference) ran() api.Ran {
	last := r.steps[len(r.steps)-1]
	out := api.Ran{Outcome: last.Is[0], Steps: len(r.steps) - 1}
	for at, is := range r.cells {
		if at != 0 {
			out.Cells = append(out.Cells, api.Cell{At: at, Is: is})
		}
	}
	slices.SortFunc(out.Cells, func(a, b api.Cell) int { return a.At - b.At })
	return out
}

// someNumber draws one that is small, most often, so that cells are met again.
func someNumber(r *rand.Rand, p int) int {
	switch r.Intn(12) {
	case 0:
		return int(r.Uint64())
	case 1:
		return p*(r.Intn(5)-2) + r.Intn(4)
	case 2:
		return []int{0, 1, -1, math.MinInt, math.MaxInt}[r.Intn(5)]
	}
	return r.Intn(7) - 2
}

// someCode draws code that begins by telling some cells.
func someCode(r *rand.Rand, p int) api.Code {
	c := api.Code{Size: r.Intn(9)}
	for i := range r.Intn(6) {
		c.List = append(c.List, set(i-1, r.Intn(3)*min(i, 1)))
	}
	for range 1 + r.Intn(9) {
		op := r.Intn(14)
		if r.Intn(40) == 0 {
			op = []int{-1, 14, 97, 1 << 40}[r.Intn(4)]
		}
		c.List = append(c.List, ins(op, someNumber(r, p), someNumber(r, p), someNumber(r, p)))
	}
	c.List = append(c.List, halt(r.Intn(3)))
	c.List = c.List[:min(len(c.List), p)]
	return c
}

func TestM4AllRunsAreAsTheWordsSay(t *testing.T) {
	r := rand.New(rand.NewSource(10))
	met := map[api.Errno]int{}
	for range 60000 {
		p := primes[r.Intn(len(primes))]
		c := someCode(r, p)
		limit := r.Intn(40)
		want := &reference{p: p, cells: map[int]int{0: 0}, fp: 1, ap: (1 + c.Size) % p}
		e := want.run(c, limit)
		met[e]++
		if e != api.OK {
			endsBy(t, p, c, limit, e)
			continue
		}
		comesTo(t, p, c, limit, want.ran())
		if got := walk(t, p, c, limit); !slices.Equal(got, want.steps) {
			t.Fatalf("Walk of %v over %d: got %v, want %v", c, p, got, want.steps)
		}
	}
	for _, e := range []api.Errno{api.OK, api.ErrBlank, api.ErrStuck, api.ErrLong} {
		if met[e] < 500 {
			t.Errorf("%v was met only %d times", e, met[e])
		}
	}
}

func TestP2NothingIsWrittenOrKept(t *testing.T) {
	f := fieldOf(t, 2013265921)
	c := factorial(5, 0)
	behind := append(slices.Clone(c.List), ins(14, 9, 9, 9), halt(0))
	c.List = behind[:len(c.List)]
	before := slices.Clone(behind)
	first, err := machine.Run(f, c, 100)
	steps, err2 := machine.Walk(f, c, 100)
	if err != nil || err2 != nil || !slices.Equal(behind, before) {
		t.Fatalf("errors %v and %v, the list is %v", err, err2, behind)
	}
	told, walked := fmt.Sprint(first), fmt.Sprint(steps)
	for i := range first.Cells {
		first.Cells[i] = api.Cell{}
	}
	clear(steps)
	clear(behind[len(c.List):])
	for range 5 {
		again, err := machine.Run(f, c, 100)
		if err != nil || fmt.Sprint(again) != told {
			t.Fatalf("the second Run gives %v, error %v", again, err)
		}
		steps, err = machine.Walk(f, c, 100)
		if err != nil || fmt.Sprint(steps) != walked {
			t.Fatalf("the second Walk gives %v, error %v", steps, err)
		}
	}
}

func TestP6NothingBehindTheListIsRead(t *testing.T) {
	behind := []api.Ins{jump(1), halt(-1)}
	c := api.Code{List: behind[:1]}
	_, err := machine.Run(fieldOf(t, 97), c, 9)
	if plain.Told(err) != api.ErrStuck {
		t.Errorf("got the error %v, want ErrStuck", err)
	}
}
