package run

import (
	"strings"

	"attest/api"
)

// maxDigits is how many digits a number has at most.
const maxDigits = 9

// names of what the machine does.
var names = [...]string{
	api.OpHalt: "halt",
	api.OpAdd:  "add",
	api.OpSub:  "sub",
	api.OpMul:  "mul",
	api.OpDiv:  "div",
	api.OpSet:  "set",
	api.OpSame: "same",
	api.OpMust: "must",
	api.OpJump: "jump",
	api.OpZero: "zero",
	api.OpCall: "call",
	api.OpBack: "back",
	api.OpTake: "take",
	api.OpPass: "pass",
}

// number reads one that may be below 0.
func number(word string) (int, bool) {
	above, below := strings.CutPrefix(word, "-")
	n, ok := digits(above)
	if below {
		return -n, ok && n != 0
	}
	return n, ok
}

// digits reads a number from 0 on.
func digits(word string) (int, bool) {
	if word == "" || len(word) > maxDigits || len(word) > 1 && word[0] == '0' {
		return 0, false
	}
	n := 0
	for _, digit := range word {
		if digit < '0' || digit > '9' {
			return 0, false
		}
		n = 10*n + int(digit-'0')
	}
	return n, true
}

// numbers reads words, each of which is to be one.
func numbers(words []string) ([]int, bool) {
	list := make([]int, len(words))
	for i, word := range words {
		n, ok := number(word)
		if !ok {
			return nil, false
		}
		list[i] = n
	}
	return list, true
}

// code reads a size, and instructions of four words each.
func code(words []string) (api.Code, bool) {
	if len(words)%4 != 1 {
		return api.Code{}, false
	}
	size, ok := number(words[0])
	if !ok {
		return api.Code{}, false
	}
	c := api.Code{Size: size}
	for i := 1; i < len(words); i += 4 {
		in, ok := instruction(words[i], words[i+1:i+4])
		if !ok {
			return api.Code{}, false
		}
		c.List = append(c.List, in)
	}
	return c, true
}

// instruction reads a name, and the three numbers behind it.
func instruction(name string, words []string) (api.Ins, bool) {
	n, ok := numbers(words)
	if !ok {
		return api.Ins{}, false
	}
	for op, is := range names {
		if is == name {
			return api.Ins{Op: op, A: n[0], B: n[1], C: n[2]}, true
		}
	}
	return api.Ins{}, false
}
