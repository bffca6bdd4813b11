package asm_test

import (
	"math"
	"slices"
	"strings"
	"testing"

	"attest/api"
	"attest/asm"
	"attest/plain"
)

// prints sees what code is written as, and that it is read as the code again.
func prints(t *testing.T, c api.Code, want string) {
	t.Helper()
	got, err := asm.Print(c)
	if err != nil || got != want {
		t.Errorf("Print of %v: got %q, %v, want %q", c, got, err, want)
	}
	reads(t, want, c)
}

// again sees that what code is written as is read as it.
func again(t *testing.T, c api.Code) {
	t.Helper()
	text, err := asm.Print(c)
	if err != nil || len(text) > api.MaxAsm {
		t.Errorf("Print of %d instructions: %d bytes, %v", len(c.List), len(text), err)
	}
	reads(t, text, c)
}

// refuses sees that code is not written, and that nothing but the fault is told.
func refuses(t *testing.T, c api.Code, want api.Errno) {
	t.Helper()
	text, err := asm.Print(c)
	if plain.Told(err) != want || text != "" {
		t.Errorf("Print of %d instructions, %v: got %q, %v, want %v", len(c.List), c.List[:min(len(c.List), 5)], text, err, want)
	}
}

func TestI4Instructions(t *testing.T) {
	all := code(-7,
		ins(0, 1, 0, 0), ins(1, 1, 2, 3), ins(2, 1, -2, 3), ins(3, 0, 0, 0), ins(4, 1, 2, -3), ins(5, 1, 2, 0), ins(6, 1, 2, 3), ins(7, 1, 2, 0),
		ins(8, 99, 0, 0), ins(9, 1, 99, 0), ins(10, 99, 2, 0), ins(11, 1, 0, 0), ins(12, -1, 0, 0), ins(13, 1, 2, 0))
	prints(t, all, "size -7\nhalt 1\nadd 1 2 3\nsub 1 -2 3\nmul 0 0 0\ndiv 1 2 -3\nset 1 2\nsame 1 2 3\nmust 1 2\n"+
		"jump 99\nzero 1 99\ncall 99 2\nback 1\ntake -1\npass 1 2\n")
	prints(t, code(0), "size 0\n")
	prints(t, api.Code{Size: 3, List: []api.Ins{}}, "size 3\n")
}

// TestI4Labels: a TO from 0 to how many instructions there are is a label, which is written once.
func TestI4Labels(t *testing.T) {
	prints(t, code(1, ins(8, 0, 0, 0)), "size 1\nl0:\njump l0\n")
	prints(t, code(1, ins(8, 1, 0, 0)), "size 1\njump l1\nl1:\n")
	prints(t, code(1, ins(8, 2, 0, 0)), "size 1\njump 2\n")
	prints(t, code(1, ins(8, -1, 0, 0)), "size 1\njump -1\n")
	prints(t, code(1, ins(9, 0, 1, 0), ins(9, 1, 1, 0), ins(9, 2, 3, 0), ins(9, 3, 4, 0), ins(9, 4, -4, 0)),
		"size 1\nzero 0 l1\nl1:\nzero 1 l1\nzero 2 l3\nl3:\nzero 3 l4\nl4:\nzero 4 -4\n")
	prints(t, code(1, ins(10, 0, 1, 0), ins(10, 3, 0, 0), ins(10, 4, 0, 0)), "size 1\nl0:\ncall l0 1\ncall l3 0\ncall 4 0\nl3:\n")
	// what is no TO is no label's number
	prints(t, code(1, ins(0, 0, 0, 0), ins(5, 1, 2, 0), ins(9, 2, 9, 0), ins(10, 9, 3, 0), ins(13, 0, 1, 0)), "size 1\nhalt 0\nset 1 2\nzero 2 9\ncall 9 3\npass 0 1\n")
	many := code(1, slices.Repeat([]api.Ins{ins(8, 11, 0, 0)}, 12)...)
	prints(t, many, "size 1\n"+repeated("jump l11", 11)+"l11:\njump l11\n")
}

// TestI4Full: it counts ahead of ErrRange.
func TestI4Full(t *testing.T) {
	halt := slices.Repeat([]api.Ins{ins(api.OpHalt, 0, 0, 0)}, api.MaxCode+1)
	prints(t, code(1, halt[:api.MaxCode]...), "size 1\n"+repeated("halt 0", api.MaxCode))
	refuses(t, code(1, halt...), api.ErrFull)
	refuses(t, code(math.MinInt, halt...), api.ErrFull)
	halt[0].Op = -1
	refuses(t, code(1, halt...), api.ErrFull)
	refuses(t, code(1, halt[:api.MaxCode]...), api.ErrRange)
}

func TestI4Range(t *testing.T) {
	for _, op := range []int{-1, 14, 15, 97, 1 << 32, math.MinInt, math.MaxInt} {
		refuses(t, code(1, ins(op, 0, 0, 0)), api.ErrRange)
		refuses(t, code(1, ins(0, 0, 0, 0), ins(op, 0, 0, 0), ins(0, 0, 0, 0)), api.ErrRange)
	}
	const most = 999999999999999999
	long := []int{most + 1, -most - 1, math.MaxInt, math.MinInt, math.MinInt + 1}
	for _, n := range long {
		refuses(t, code(n), api.ErrRange)
		refuses(t, code(n, ins(0, 0, 0, 0)), api.ErrRange)
	}
	has := []int{1, 3, 3, 3, 3, 2, 3, 2, 1, 2, 2, 1, 1, 2} // how many fields
	for op, own := range has {
		for field := range 3 {
			for _, n := range append(long, 1, -1, 0, 4096, most, -most) {
				is := [3]int{}
				is[field] = n
				c := code(1, ins(5, 0, 0, 0), ins(op, is[0], is[1], is[2]))
				if n == 0 || field < own && n <= most && n >= -most {
					again(t, c)
				} else {
					refuses(t, c, api.ErrRange)
				}
			}
		}
	}
	prints(t, code(most, ins(1, -most, most, -most), ins(8, most, 0, 0), ins(10, -most, most, 0)),
		"size 999999999999999999\nadd -999999999999999999 999999999999999999 -999999999999999999\njump 999999999999999999\ncall -999999999999999999 999999999999999999\n")
	prints(t, code(-most), "size -999999999999999999\n")
}

// TestI4Length: the longest code has room.
func TestI4Length(t *testing.T) {
	const least = -999999999999999999
	for _, in := range []api.Ins{ins(6, least, least, least), ins(10, least, least, 0), ins(9, least, 4000, 0)} {
		again(t, code(least, slices.Repeat([]api.Ins{in}, api.MaxCode)...))
	}
	var each []api.Ins
	for i := range api.MaxCode {
		each = append(each, ins(9+i%2, i%2*(i+1)+(1-i%2)*least, i%2*least+(1-i%2)*(i+1), 0))
	}
	again(t, code(least, each...))
}

func TestP2ListsStayAsTheyAre(t *testing.T) {
	behind := []api.Ins{ins(8, 1, 0, 0), ins(0, 0, 0, 0), ins(14, 9, 9, 9), ins(8, 2, 0, 0)}
	before := slices.Clone(behind)
	prints(t, code(1, behind[:2]...), "size 1\njump l1\nl1:\nhalt 0\n")
	if !slices.Equal(behind, before) {
		t.Errorf("the list is %v, and was %v", behind, before)
	}
	for range 5 {
		prints(t, code(1, behind[:1]...), strings.Join([]string{"size 1", "jump l1", "l1:", ""}, "\n"))
	}
}
