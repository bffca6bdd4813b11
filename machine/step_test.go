package machine_test

import (
	"math"
	"testing"

	"attest/api"
	"attest/machine"
)

// ahead is code that comes to an instruction, number 8, as its step 7: with fp 20, ap 30, rv 44; the cells 18 to 22 being
// 1 2 5 7 0, and 23 to 31 untold. Behind it, at 2, 9 and 10, it halts.
func ahead(in api.Ins) api.Code {
	return code(5,
		ins(api.OpCall, 3, 10, 0), ins(api.OpCall, 5, 10, 0), halt(-1),
		set(0, 44), ins(api.OpBack, 0, 0, 0),
		set(0, 5), set(1, 7), set(2, 0), in, halt(0), halt(0))
}

// does is what an instruction is to do: its cells and what they are, and the registers behind it.
type does struct {
	in             api.Ins
	at, is         [3]int
	pc, fp, ap, rv int
}

func TestM2WhatInstructionsDo(t *testing.T) {
	for _, d := range []does{
		{ins(api.OpAdd, 0, 1, 3), [3]int{20, 21, 23}, [3]int{5, 7, 12}, 9, 20, 30, 44},
		{ins(api.OpAdd, 0, 2, 0), [3]int{20, 22, 20}, [3]int{5, 0, 5}, 9, 20, 30, 44},
		{ins(api.OpSub, 0, 1, 3), [3]int{20, 21, 23}, [3]int{5, 7, 95}, 9, 20, 30, 44},
		{ins(api.OpMul, 0, 1, 3), [3]int{20, 21, 23}, [3]int{5, 7, 35}, 9, 20, 30, 44},
		{ins(api.OpMul, 0, 2, 2), [3]int{20, 22, 22}, [3]int{5, 0, 0}, 9, 20, 30, 44},
		{ins(api.OpDiv, 0, 1, 3), [3]int{20, 21, 23}, [3]int{5, 7, 70}, 9, 20, 30, 44},
		{ins(api.OpDiv, 2, 1, 3), [3]int{22, 21, 23}, [3]int{0, 7, 0}, 9, 20, 30, 44},
		{ins(api.OpSet, 3, -1, 50), [3]int{23}, [3]int{96}, 9, 20, 30, 44},
		{ins(api.OpSet, 0, 5, 50), [3]int{20}, [3]int{5}, 9, 20, 30, 44},
		{ins(api.OpSame, 0, 1, 3), [3]int{20, 21, 23}, [3]int{5, 7, 0}, 9, 20, 30, 44},
		{ins(api.OpSame, 1, 1, 3), [3]int{21, 21, 23}, [3]int{7, 7, 1}, 9, 20, 30, 44},
		{ins(api.OpMust, 0, 0, 50), [3]int{20, 20}, [3]int{5, 5}, 9, 20, 30, 44},
		{ins(api.OpMust, 2, -20, 50), [3]int{22, 0}, [3]int{0, 0}, 9, 20, 30, 44},
		{ins(api.OpJump, 10, 50, 50), [3]int{}, [3]int{}, 10, 20, 30, 44},
		{ins(api.OpZero, 2, 10, 50), [3]int{22}, [3]int{0}, 10, 20, 30, 44},
		{ins(api.OpZero, 0, 10, 50), [3]int{20}, [3]int{5}, 9, 20, 30, 44},
		{ins(api.OpZero, 0, 50, 50), [3]int{20}, [3]int{5}, 9, 20, 30, 44},
		{ins(api.OpBack, 1, 50, 50), [3]int{18, 19, 21}, [3]int{1, 2, 7}, 2, 1, 30, 7},
		{ins(api.OpTake, 3, 50, 50), [3]int{23}, [3]int{44}, 9, 20, 30, 44},
		{ins(api.OpPass, 1, 4, 50), [3]int{21, 36}, [3]int{7, 7}, 9, 20, 30, 44},
		{ins(api.OpPass, 1, -11, 50), [3]int{21, 21}, [3]int{7, 7}, 9, 20, 30, 44},
	} {
		steps := walk(t, 97, ahead(d.in), 9)
		same(t, steps[7], api.Step{PC: 8, FP: 20, AP: 30, RV: 44, At: d.at, Is: d.is}, "the step of %v", d.in)
		next := steps[8]
		same(t, []int{next.PC, next.FP, next.AP, next.RV}, []int{d.pc, d.fp, d.ap, d.rv}, "pc, fp, ap, rv behind %v", d.in)
	}
}

func TestM2OpCall(t *testing.T) {
	c := ahead(ins(api.OpCall, 11, 6, 50))
	c.List = append(c.List, set(0, 3), halt(0))
	steps := walk(t, 97, c, 9)
	same(t, steps[7], api.Step{PC: 8, FP: 20, AP: 30, RV: 44, At: [3]int{30, 31}, Is: [3]int{20, 9}}, "the step of OpCall")
	same(t, steps[8], api.Step{PC: 11, FP: 32, AP: 38, RV: 44, At: [3]int{32}, Is: [3]int{3}}, "the step behind OpCall")
}

func TestM2OpHaltEnds(t *testing.T) {
	c := ahead(halt(1))
	steps := walk(t, 97, c, 7)
	same(t, len(steps), 8, "how many steps there are")
	same(t, steps[7], api.Step{PC: 8, FP: 20, AP: 30, RV: 44, At: [3]int{21}, Is: [3]int{7}}, "the step of OpHalt")
	comesTo(t, 97, c, 7, api.Ran{Outcome: 7, Steps: 7, Cells: []api.Cell{
		{At: 6, Is: 1}, {At: 7, Is: 1}, {At: 8, Is: 44}, {At: 18, Is: 1}, {At: 19, Is: 2}, {At: 20, Is: 5}, {At: 21, Is: 7}, {At: 22, Is: 0}}})
}

func TestM2LookingAtUntoldCells(t *testing.T) {
	for _, in := range []api.Ins{
		ins(api.OpAdd, 3, 0, 4), ins(api.OpAdd, 0, 3, 4), ins(api.OpSub, 3, 0, 4), ins(api.OpSub, 0, 3, 4),
		ins(api.OpMul, 3, 2, 4), ins(api.OpMul, 2, 3, 4), ins(api.OpDiv, 3, 0, 4), ins(api.OpDiv, 0, 3, 4),
		ins(api.OpSame, 3, 0, 4), ins(api.OpSame, 0, 3, 4), ins(api.OpSame, 3, 3, 4),
		ins(api.OpMust, 3, 0, 0), ins(api.OpMust, 0, 3, 0), ins(api.OpMust, 3, 3, 0),
		ins(api.OpZero, 3, 9, 0), ins(api.OpZero, 3, 50, 0), ins(api.OpBack, 3, 0, 0), ins(api.OpPass, 3, 0, 0), ins(api.OpPass, 3, -9, 0), halt(3),
		// What is untold is not told by the instruction itself.
		ins(api.OpAdd, 3, 2, 3), ins(api.OpMul, 2, 3, 3), ins(api.OpSame, 3, 3, 3),
	} {
		endsBy(t, 97, ahead(in), 9, api.ErrBlank)
	}
}

func TestM2OpBackLooksAtThree(t *testing.T) {
	back := ins(api.OpBack, 0, 0, 0)
	// At first fp - 2 is the last element, and fp - 1 the cell 0, which is told.
	endsBy(t, 97, code(0, set(0, 1), back), 9, api.ErrBlank)
	// Where fp - 2 is told to be 50, all is done again with that fp: then the cell 49 is untold.
	endsBy(t, 97, code(0, set(-2, 50), set(0, 1), back), 9, api.ErrBlank)
	endsBy(t, 97, code(0, set(-2, 50), set(0, 1), set(-1, 0), back), 9, api.ErrLong)
	endsBy(t, 97, code(0, set(-2, 50), set(-1, 0), back), 9, api.ErrBlank)
}

func TestM2NoNextStep(t *testing.T) {
	for _, in := range []api.Ins{
		ins(api.OpAdd, 0, 1, 0), ins(api.OpSub, 0, 1, 2), ins(api.OpMul, 0, 1, 1), ins(api.OpDiv, 0, 1, 2),
		ins(api.OpDiv, 0, 2, 3), ins(api.OpDiv, 2, 2, 3), ins(api.OpDiv, 2, 2, 2),
		ins(api.OpSet, 0, 6, 0), ins(api.OpSet, 2, 1, 0),
		ins(api.OpSame, 0, 1, 0), ins(api.OpSame, 1, 1, 2), ins(api.OpMust, 0, 1, 0), ins(api.OpMust, 1, 2, 0),
		ins(api.OpTake, 0, 0, 0), ins(api.OpPass, 0, -11, 0), ins(api.OpPass, 0, -32, 0),
	} {
		endsBy(t, 97, ahead(in), 9, api.ErrStuck)
	}
}

func TestM2OpCallTellsBoth(t *testing.T) {
	// The cells that it tells are 30 and 31.
	for _, told := range []struct{ a, is int }{{10, 19}, {10, 0}, {11, 8}, {11, 0}} {
		c := ahead(set(told.a, told.is))
		c.List[9] = ins(api.OpCall, 10, 0, 0)
		endsBy(t, 97, c, 9, api.ErrStuck)
	}
	for _, told := range []struct{ a, is int }{{10, 20}, {11, 10}} {
		c := ahead(set(told.a, told.is))
		c.List[9] = ins(api.OpCall, 11, 0, 0)
		c.List = append(c.List, halt(-1))
		same(t, walk(t, 97, c, 9)[9].Is[0], 10, "what fp - 1 is behind OpCall, with %v told", told)
	}
}

func TestM2OtherOps(t *testing.T) {
	for _, op := range []int{-1, 14, 15, 97, 97 + api.OpSet, api.OpSet - 97, 64, math.MaxInt, math.MinInt} {
		endsBy(t, 97, ahead(ins(op, 0, 0, 0)), 9, api.ErrStuck)
		endsBy(t, 97, code(0, ins(op, -1, 0, 0)), 1, api.ErrStuck)
	}
}

func TestM2CellsAreThoseOfSteps(t *testing.T) {
	for op := range 14 {
		in := ins(op, 1, 1, 1)
		for _, step := range walk(t, 97, ahead(jump(9)), 9) {
			far := machine.Cells(fieldOf(t, 97), in, step.FP-97, step.AP+97)
			same(t, far, machine.Cells(fieldOf(t, 97), in, step.FP, step.AP), "the cells of %v with other numbers", in)
		}
	}
	c := code(2, set(0, 2), ins(api.OpPass, 0, 0, 0), ins(api.OpCall, 5, 2, 0), ins(api.OpTake, 1, 0, 0), halt(1),
		ins(api.OpAdd, 0, 0, 1), ins(api.OpBack, 1, 0, 0))
	for _, step := range walk(t, 97, c, 9) {
		same(t, machine.Cells(fieldOf(t, 97), c.List[step.PC], step.FP, step.AP), step.At, "the cells of %v", step)
	}
	for _, op := range []int{-1, 14, api.OpJump, math.MaxInt} {
		same(t, machine.Cells(fieldOf(t, 97), ins(op, 1, 1, 1), 20, 30), [3]int{}, "the cells of the Op %d", op)
	}
}
