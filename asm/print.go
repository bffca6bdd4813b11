package asm

import (
	"strconv"
	"strings"

	"attest/api"
)

// isWritable tells whether there is a text of the code.
func isWritable(c api.Code) bool {
	if !isShort(c.Size) {
		return false
	}
	for _, in := range c.List {
		if !isOp(in.Op) || !areWritable(forms[in.Op].slots, fields(in)) {
			return false
		}
	}
	return true
}

// areWritable tells whether the fields of an instruction are such that its words tell them all.
func areWritable(slots [3]slot, is [3]int) bool {
	for i, s := range slots {
		if s == noSlot && is[i] != 0 || !isShort(is[i]) {
			return false
		}
	}
	return true
}

// written is the text of code that has one.
func written(c api.Code) string {
	var out strings.Builder
	out.WriteString(sizeWord + " " + strconv.Itoa(c.Size) + "\n")
	labelled := targets(c.List)
	for i, in := range c.List {
		if labelled[i] {
			out.WriteString(label(i) + ":\n")
		}
		out.WriteString(instruction(in, len(c.List)) + "\n")
	}
	if labelled[len(c.List)] {
		out.WriteString(label(len(c.List)) + ":\n")
	}
	return out.String()
}

// targets tells of each instruction, and of the end, whether some TO is its number.
func targets(list []api.Ins) []bool {
	are := make([]bool, len(list)+1)
	for _, in := range list {
		is := fields(in)
		for i, s := range forms[in.Op].slots {
			if s == toSlot && hasLabel(is[i], len(list)) {
				are[is[i]] = true
			}
		}
	}
	return are
}

// hasLabel tells whether a TO is written as a label, where there are n instructions.
func hasLabel(to, n int) bool { return to >= 0 && to <= n }

// label is the name of the label ahead of instruction k.
func label(k int) string { return "l" + strconv.Itoa(k) }

// instruction is the text of one of n.
func instruction(in api.Ins, n int) string {
	text := forms[in.Op].word
	is := fields(in)
	for i, s := range forms[in.Op].slots {
		switch {
		case s == noSlot:
		case s == toSlot && hasLabel(is[i], n):
			text += " " + label(is[i])
		default:
			text += " " + strconv.Itoa(is[i])
		}
	}
	return text
}
