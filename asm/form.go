package asm

import "attest/api"

// slot is what a word behind an instruction's first one is.
type slot int

const (
	noSlot     slot = iota // there is no word
	numberSlot             // a number
	toSlot                 // a number, or a label's name
)

// form is what an instruction looks like: its first word, and those behind it, which are A, B and C.
type form struct {
	word  string
	slots [3]slot
}

// sizeWord is ahead of all instructions.
const sizeWord = "size"

// forms has that of each Op.
var forms = [...]form{
	api.OpHalt: {"halt", [3]slot{numberSlot}},
	api.OpAdd:  {"add", [3]slot{numberSlot, numberSlot, numberSlot}},
	api.OpSub:  {"sub", [3]slot{numberSlot, numberSlot, numberSlot}},
	api.OpMul:  {"mul", [3]slot{numberSlot, numberSlot, numberSlot}},
	api.OpDiv:  {"div", [3]slot{numberSlot, numberSlot, numberSlot}},
	api.OpSet:  {"set", [3]slot{numberSlot, numberSlot}},
	api.OpSame: {"same", [3]slot{numberSlot, numberSlot, numberSlot}},
	api.OpMust: {"must", [3]slot{numberSlot, numberSlot}},
	api.OpJump: {"jump", [3]slot{toSlot}},
	api.OpZero: {"zero", [3]slot{numberSlot, toSlot}},
	api.OpCall: {"call", [3]slot{toSlot, numberSlot}},
	api.OpBack: {"back", [3]slot{numberSlot}},
	api.OpTake: {"take", [3]slot{numberSlot}},
	api.OpPass: {"pass", [3]slot{numberSlot, numberSlot}},
}

// opOf gives the Op whose first word it is.
func opOf(word string) (int, bool) {
	for op, f := range forms {
		if f.word == word {
			return op, true
		}
	}
	return 0, false
}

// isOp tells whether it is one.
func isOp(op int) bool { return op >= 0 && op < len(forms) }

// fields are those of an instruction, in the order of its slots.
func fields(in api.Ins) [3]int { return [3]int{in.A, in.B, in.C} }
