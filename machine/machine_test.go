package machine_test

import (
	"fmt"
	"math"
	"slices"
	"testing"

	"attest/api"
	"attest/field"
	"attest/machine"
	"attest/plain"
)

var primes = []int{3, 5, 7, 17, 97, 12289, 2013265921, 2147483647}

func fieldOf(t *testing.T, p int) *field.Field {
	t.Helper()
	f, err := field.New(p)
	if err != nil {
		t.Fatalf("field.New(%d): %v", p, err)
	}
	return f
}

func same(t *testing.T, got, want any, what string, args ...any) {
	t.Helper()
	if g, w := fmt.Sprint(got), fmt.Sprint(want); g != w {
		t.Errorf("%s: got %s, want %s", fmt.Sprintf(what, args...), g, w)
	}
}

// code of a size and of instructions.
func code(size int, list ...api.Ins) api.Code { return api.Code{Size: size, List: list} }

func set(a, b int) api.Ins { return api.Ins{Op: api.OpSet, A: a, B: b} }

func halt(a int) api.Ins { return api.Ins{Op: api.OpHalt, A: a} }

func jump(a int) api.Ins { return api.Ins{Op: api.OpJump, A: a} }

// ins gives an instruction by its four numbers.
func ins(op, a, b, c int) api.Ins { return api.Ins{Op: op, A: a, B: b, C: c} }

// comesTo sees what Run answers.
func comesTo(t *testing.T, p int, c api.Code, limit int, want api.Ran) {
	t.Helper()
	got, err := machine.Run(fieldOf(t, p), c, limit)
	if err != nil {
		t.Errorf("Run of %v over %d with %d: got the error %v", c, p, limit, err)
	}
	same(t, got, want, "Run of %v over %d with %d", c, p, limit)
}

// endsBy sees that both calls tell an error, and nothing else.
func endsBy(t *testing.T, p int, c api.Code, limit int, want api.Errno) {
	t.Helper()
	what := fmt.Sprintf("%d instructions %v of the size %d over %d with %d", len(c.List), c.List[:min(len(c.List), 9)], c.Size, p, limit)
	ran, err := machine.Run(fieldOf(t, p), c, limit)
	if plain.Told(err) != want {
		t.Errorf("Run of %s: got the error %v, want %v", what, err, want)
	}
	if ran.Outcome != 0 || ran.Steps != 0 || len(ran.Cells) != 0 {
		t.Errorf("Run of %s: got %v beside the error %v", what, ran, err)
	}
	steps, err := machine.Walk(fieldOf(t, p), c, limit)
	if plain.Told(err) != want {
		t.Errorf("Walk of %s: got the error %v, want %v", what, err, want)
	}
	if len(steps) != 0 {
		t.Errorf("Walk of %s: got %d steps beside the error %v", what, len(steps), err)
	}
}

// walk gives all steps, which there are.
func walk(t *testing.T, p int, c api.Code, limit int) []api.Step {
	t.Helper()
	steps, err := machine.Walk(fieldOf(t, p), c, limit)
	if err != nil || len(steps) == 0 {
		t.Fatalf("Walk of %v over %d with %d: %d steps, error %v", c, p, limit, len(steps), err)
	}
	return steps
}

func TestTableOfTheDocument(t *testing.T) {
	c := code(3, set(0, 5), set(1, -1), ins(api.OpMul, 0, 1, 2), halt(2))
	comesTo(t, 97, c, 3, api.Ran{Outcome: 92, Steps: 3, Cells: []api.Cell{{At: 1, Is: 5}, {At: 2, Is: 96}, {At: 3, Is: 92}}})
	endsBy(t, 97, c, 2, api.ErrLong)
	steps := walk(t, 97, c, 3)
	same(t, steps[len(steps)-1], api.Step{PC: 3, FP: 1, AP: 4, At: [3]int{3}, Is: [3]int{92}}, "the last Step")
	comesTo(t, 97, code(1, set(0, 5), halt(0)), 9, api.Ran{Outcome: 5, Steps: 1, Cells: []api.Cell{{At: 1, Is: 5}}})
}

func TestM1CellZeroIsToldAtFirst(t *testing.T) {
	for _, p := range primes {
		comesTo(t, p, code(0, halt(-1)), 0, api.Ran{})
		comesTo(t, p, code(0, set(p-1, 0), halt(-1)), 1, api.Ran{Steps: 1})
		comesTo(t, p, code(0, set(-1, p), halt(-1)), 1, api.Ran{Steps: 1})
		endsBy(t, p, code(0, set(-1, 1), halt(-1)), 9, api.ErrStuck)
	}
}

func TestM1OtherCellsAreUntoldAtFirst(t *testing.T) {
	for _, p := range primes {
		for at := range min(p, 100) {
			if at != 0 {
				endsBy(t, p, code(p%7, halt(at-1)), 0, api.ErrBlank)
			}
		}
	}
}

func TestM1TellingTwice(t *testing.T) {
	for _, p := range primes {
		once := []api.Cell{{At: 1, Is: 2}}
		comesTo(t, p, code(0, set(0, 2), set(p, 2), halt(0)), 9, api.Ran{Outcome: 2, Steps: 2, Cells: once})
		comesTo(t, p, code(0, set(0, 2), set(-p, 2-p), halt(0)), 9, api.Ran{Outcome: 2, Steps: 2, Cells: once})
		endsBy(t, p, code(0, set(0, 2), set(0, 1), halt(0)), 9, api.ErrStuck)
		endsBy(t, p, code(0, set(0, 2), set(0, 0), halt(0)), 9, api.ErrStuck)
		endsBy(t, p, code(0, set(0, 0), set(0, 2), halt(0)), 9, api.ErrStuck)
	}
}

func TestM1RegistersAtFirst(t *testing.T) {
	for _, p := range primes {
		for _, size := range []int{0, 1, 2, p - 2, p - 1, p, 3 * p, api.MaxSize} {
			if size > api.MaxSize {
				continue
			}
			first := walk(t, p, code(size, jump(1), halt(-1)), 1)[0]
			same(t, first, api.Step{FP: 1, AP: (1 + size) % p}, "the first step over %d of the size %d", p, size)
		}
	}
}

func TestM1NumbersAreElements(t *testing.T) {
	for _, p := range primes {
		far := p * ((math.MaxInt - 9) / p)
		plainly := code(1, set(0, 2), ins(api.OpAdd, 0, 0, 1), jump(4), halt(0), ins(api.OpZero, -1, 6, 0), halt(0), halt(1))
		if len(plainly.List) > p {
			continue
		}
		farOff := code(1, set(far, 2-far), ins(api.OpAdd, p, -p, 1-far), jump(4+far), halt(0), ins(api.OpZero, far-1, 6-p, 0), halt(0), halt(far+1))
		same(t, walk(t, p, farOff, 9), walk(t, p, plainly, 9), "Walk over %d", p)
	}
}

func TestM1NumbersOfNoInstruction(t *testing.T) {
	for _, limit := range []int{1, 2, 3, 9, api.MaxSteps} {
		for _, to := range []int{2, 3, 96, -1, math.MaxInt, math.MinInt} {
			endsBy(t, 97, code(0, jump(to), halt(-1)), limit, api.ErrStuck)
			endsBy(t, 97, code(0, ins(api.OpZero, -1, to, 0), halt(-1)), limit, api.ErrStuck)
			endsBy(t, 97, code(0, ins(api.OpCall, to, 0, 0), halt(-1)), limit, api.ErrStuck)
		}
		endsBy(t, 97, code(0, set(0, 1)), limit, api.ErrStuck)
	}
	// A call by the last instruction goes back to where none is.
	endsBy(t, 97, code(0, jump(3), set(0, 8), ins(api.OpBack, 0, 0, 0), ins(api.OpCall, 1, 1, 0)), 9, api.ErrStuck)
	endsBy(t, 97, code(0, jump(3), set(0, 8), ins(api.OpBack, 0, 0, 0), ins(api.OpCall, 1, 1, 0)), 4, api.ErrStuck)
	endsBy(t, 97, code(0, jump(3), set(0, 8), ins(api.OpBack, 0, 0, 0), ins(api.OpCall, 1, 1, 0)), 3, api.ErrLong)
}

func TestM1AsManyInstructionsAsElements(t *testing.T) {
	// What is one more than the last number is 0.
	endsBy(t, 3, code(0, set(0, 1), set(0, 1), set(0, 1)), 100, api.ErrLong)
	endsBy(t, 3, code(0, set(0, 1), set(0, 1)), 100, api.ErrStuck)
	call := code(0, jump(4), halt(-1), halt(0), halt(0), ins(api.OpCall, 1, 0, 0))
	comesTo(t, 5, call, 2, api.Ran{Outcome: 0, Steps: 2, Cells: []api.Cell{{At: 1, Is: 1}, {At: 2, Is: 0}}})
	comesTo(t, 7, call, 2, api.Ran{Outcome: 5, Steps: 2, Cells: []api.Cell{{At: 1, Is: 1}, {At: 2, Is: 5}}})
}

func TestM3Sizes(t *testing.T) {
	one := set(0, 1)
	for _, limit := range []int{0, 9, -1, api.MaxSteps + 1, math.MinInt} { // ErrSize comes first
		for _, size := range []int{-1, api.MaxSize + 1, math.MinInt, math.MaxInt, -97} {
			endsBy(t, 97, code(size, halt(-1)), limit, api.ErrSize)
		}
		endsBy(t, 97, code(1), limit, api.ErrSize)
		endsBy(t, 97, code(1, make([]api.Ins, 98)...), limit, api.ErrSize)
		endsBy(t, 3, code(1, one, one, one, halt(0)), limit, api.ErrSize)
		endsBy(t, 12289, code(1, make([]api.Ins, api.MaxCode+1)...), limit, api.ErrSize)
	}
	comesTo(t, 97, code(0, halt(-1)), 9, api.Ran{})
	comesTo(t, 97, code(api.MaxSize, halt(-1)), 9, api.Ran{})
	comesTo(t, 97, code(1, slices.Repeat([]api.Ins{halt(-1)}, 97)...), 9, api.Ran{})
	comesTo(t, 12289, code(1, slices.Repeat([]api.Ins{halt(-1)}, api.MaxCode)...), 9, api.Ran{})
}

func TestM3AllInstructions(t *testing.T) {
	list := slices.Repeat([]api.Ins{set(0, 1)}, api.MaxCode)
	list[api.MaxCode-1] = halt(0)
	want := api.Ran{Outcome: 1, Steps: api.MaxCode - 1, Cells: []api.Cell{{At: 1, Is: 1}}}
	comesTo(t, 12289, code(1, list...), api.MaxCode-1, want)
	endsBy(t, 12289, code(1, list...), api.MaxCode-2, api.ErrLong)
}

func TestM3Limits(t *testing.T) {
	for _, limit := range []int{-1, api.MaxSteps + 1, math.MinInt, math.MaxInt, -97} {
		endsBy(t, 97, code(0, halt(-1)), limit, api.ErrRange)
		endsBy(t, 97, code(0, halt(0)), limit, api.ErrRange)
	}
	comesTo(t, 97, code(0, halt(-1)), 0, api.Ran{})
	comesTo(t, 97, code(0, halt(-1)), api.MaxSteps, api.Ran{})
}

func TestM3CallsOfItself(t *testing.T) {
	// A call of itself is told two cells more in each step: once round, it tells the cells 0 and 1 what they are, and then the
	// cell 2, which is 1, that it is 2.
	c := code(0, ins(api.OpCall, 0, 0, 0))
	endsBy(t, 12289, c, 6145, api.ErrLong)
	endsBy(t, 12289, c, 6146, api.ErrStuck)
	endsBy(t, 2013265921, c, api.MaxSteps, api.ErrLong)
}

// factorial is code that comes to n (n - 1) .. 1 in 9 n + 7 steps, and as many more as OpSet is done once more.
func factorial(n, more int) api.Code {
	list := slices.Repeat([]api.Ins{set(0, n)}, more+1)
	main := more + 5
	return code(2, append(list,
		ins(api.OpPass, 0, 0, 0), ins(api.OpCall, main, 5, 0), ins(api.OpTake, 1, 0, 0), halt(1),
		ins(api.OpZero, 0, main+8, 0), set(1, 1), ins(api.OpSub, 0, 1, 2), ins(api.OpPass, 2, 0, 0), ins(api.OpCall, main, 5, 0),
		ins(api.OpTake, 3, 0, 0), ins(api.OpMul, 0, 3, 4), jump(main+9), set(4, 1), ins(api.OpBack, 4, 0, 0))...)
}

func TestM3AsManyStepsAsMayBe(t *testing.T) {
	const p, n, more = 2013265921, 1819, 6
	want := 1
	for i := range n {
		want = want * (i + 1) % p
	}
	got, err := machine.Run(fieldOf(t, p), factorial(n, more), api.MaxSteps)
	if err != nil || got.Outcome != want || got.Steps != api.MaxSteps {
		t.Errorf("got %d behind %d steps, error %v, want %d behind %d", got.Outcome, got.Steps, err, want, api.MaxSteps)
	}
	if !slices.IsSortedFunc(got.Cells, func(a, b api.Cell) int { return a.At - b.At }) {
		t.Errorf("the cells are not ascending")
	}
	if steps := walk(t, p, factorial(n, more), api.MaxSteps); len(steps) != api.MaxSteps+1 {
		t.Errorf("got %d steps of Walk", len(steps))
	}
	endsBy(t, p, factorial(n, more), api.MaxSteps-1, api.ErrLong)
	endsBy(t, p, factorial(n, more+1), api.MaxSteps, api.ErrLong)
}

func TestM3LongOrStuckOrBlank(t *testing.T) {
	// Behind as many steps as may be, only the number of the next instruction counts, and whether it is OpHalt.
	for _, in := range []api.Ins{ins(api.OpAdd, 5, 5, 5), ins(api.OpDiv, -1, -1, 3), ins(14, 0, 0, 0), ins(-1, 0, 0, 0), set(0, 2), jump(50), jump(0)} {
		c := code(1, set(0, 1), in)
		endsBy(t, 97, c, 1, api.ErrLong)
		endsBy(t, 97, c, 0, api.ErrLong)
	}
	endsBy(t, 97, code(1, set(0, 1), halt(1)), 1, api.ErrBlank)
	endsBy(t, 97, code(1, set(0, 1), halt(1)), 0, api.ErrLong)
	endsBy(t, 97, code(1, set(0, 1)), 1, api.ErrStuck)
	endsBy(t, 97, code(1, set(0, 1)), 0, api.ErrLong)
	endsBy(t, 97, code(1, jump(1)), 1, api.ErrStuck)
	// A step looks at its cells ahead of all else.
	endsBy(t, 97, code(1, set(0, 0), ins(api.OpDiv, 1, 0, 2), halt(0)), 9, api.ErrBlank)
	endsBy(t, 97, code(1, set(0, 0), ins(api.OpDiv, 0, 0, 2), halt(0)), 9, api.ErrStuck)
	endsBy(t, 97, code(1, set(0, 0), ins(api.OpZero, 1, 50, 0), halt(0)), 9, api.ErrBlank)
	endsBy(t, 97, code(1, jump(2), ins(api.OpBack, 5, 0, 0), ins(api.OpCall, 1, 1, 0)), 9, api.ErrBlank)
	endsBy(t, 97, code(1, ins(api.OpPass, 3, -4, 0), halt(0)), 9, api.ErrBlank)
	// What comes first counts.
	endsBy(t, 97, code(1, set(0, 1), set(0, 2), halt(9)), 9, api.ErrStuck)
	endsBy(t, 97, code(1, set(0, 1), ins(api.OpMust, 0, 7, 0), set(0, 2)), 9, api.ErrBlank)
}

func TestM3CellsAreAscending(t *testing.T) {
	for _, p := range primes[4:] {
		list := []api.Ins{}
		want := api.Ran{Steps: 40, Outcome: 0}
		for i := range 40 {
			list = append(list, set((i*7+20)%40, (i*7+20)%40))
			want.Cells = append(want.Cells, api.Cell{At: i + 1, Is: i})
		}
		comesTo(t, p, code(40, append(list, halt(0))...), 40, want)
	}
}

func TestM4StepsOfACall(t *testing.T) {
	// 2 is doubled within a call.
	c := code(2, set(0, 2), ins(api.OpPass, 0, 0, 0), ins(api.OpCall, 5, 2, 0), ins(api.OpTake, 1, 0, 0), halt(1),
		ins(api.OpAdd, 0, 0, 1), ins(api.OpBack, 1, 0, 0))
	want := []api.Step{
		{PC: 0, FP: 1, AP: 3, RV: 0, At: [3]int{1}, Is: [3]int{2}},
		{PC: 1, FP: 1, AP: 3, RV: 0, At: [3]int{1, 5}, Is: [3]int{2, 2}},
		{PC: 2, FP: 1, AP: 3, RV: 0, At: [3]int{3, 4}, Is: [3]int{1, 3}},
		{PC: 5, FP: 5, AP: 7, RV: 0, At: [3]int{5, 5, 6}, Is: [3]int{2, 2, 4}},
		{PC: 6, FP: 5, AP: 7, RV: 0, At: [3]int{3, 4, 6}, Is: [3]int{1, 3, 4}},
		{PC: 3, FP: 1, AP: 7, RV: 4, At: [3]int{2}, Is: [3]int{4}},
		{PC: 4, FP: 1, AP: 7, RV: 4, At: [3]int{2}, Is: [3]int{4}},
	}
	same(t, walk(t, 97, c, 6), want, "Walk")
	endsBy(t, 97, c, 5, api.ErrLong)
}
