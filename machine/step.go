package machine

import (
	"attest/api"
	"attest/field"
)

// What a run panics with where it does not go on.
type (
	blank struct{} // a cell is looked at that is untold
	stuck struct{} // there is no next step
	long  struct{} // it has done as many steps as it may
)

// run is a machine at work: its code, its cells that are told, and its registers.
type run struct {
	f              *field.Field
	list           []api.Ins
	told           map[int]int
	pc, fp, ap, rv int
}

// begun is a run ahead of its first step.
func begun(f *field.Field, c api.Code) *run {
	return &run{f: f, list: c.List, told: map[int]int{0: 0}, fp: 1, ap: f.Add(1, c.Size)}
}

// steps does all steps, at most limit of them ahead of OpHalt.
func (r *run) steps(limit int) []api.Step {
	var steps []api.Step
	for {
		in := r.next()
		if len(steps) == limit && in.Op != api.OpHalt {
			panic(long{})
		}
		steps = append(steps, r.step(in))
		if in.Op == api.OpHalt {
			return steps
		}
	}
}

// next is the instruction that pc is the number of.
func (r *run) next() api.Ins {
	must(r.pc < len(r.list))
	return r.list[r.pc]
}

// step does one instruction. The registers wait till all cells are looked at and told, as what they become hangs on these.
func (r *run) step(in api.Ins) api.Step {
	s := api.Step{PC: r.pc, FP: r.fp, AP: r.ap, RV: r.rv, At: Cells(r.f, in, r.fp, r.ap)}
	r.work(in, s.At)
	for i, at := range s.At {
		s.Is[i] = r.told[at]
	}
	r.move(in, s.Is)
	return s
}

// Cells are those of an instruction. In the place of one that it has not stands 0, as the cell 0 is 0 in every run.
func Cells(f *field.Field, in api.Ins, fp, ap int) [3]int {
	switch in.Op {
	case api.OpAdd, api.OpSub, api.OpMul, api.OpDiv, api.OpSame:
		return [3]int{f.Add(fp, in.A), f.Add(fp, in.B), f.Add(fp, in.C)}
	case api.OpMust:
		return [3]int{f.Add(fp, in.A), f.Add(fp, in.B)}
	case api.OpSet, api.OpZero, api.OpTake, api.OpHalt:
		return [3]int{f.Add(fp, in.A)}
	case api.OpCall:
		return [3]int{f.Of(ap), f.Add(ap, 1)}
	case api.OpBack:
		return [3]int{f.Sub(fp, 2), f.Sub(fp, 1), f.Add(fp, in.A)}
	case api.OpPass:
		return [3]int{f.Add(fp, in.A), f.Add(f.Add(ap, 2), in.B)}
	}
	return [3]int{}
}

// work looks at and tells the cells of an instruction.
func (r *run) work(in api.Ins, at [3]int) {
	switch in.Op {
	case api.OpAdd:
		r.tell(at[2], r.f.Add(r.look(at[0]), r.look(at[1])))
	case api.OpSub:
		r.tell(at[2], r.f.Sub(r.look(at[0]), r.look(at[1])))
	case api.OpMul:
		r.tell(at[2], r.f.Mul(r.look(at[0]), r.look(at[1])))
	case api.OpDiv:
		a, b := r.look(at[0]), r.look(at[1])
		must(b != 0)
		r.tell(at[2], r.f.Div(a, b))
	case api.OpSet:
		r.tell(at[0], r.f.Of(in.B))
	case api.OpSame:
		r.tell(at[2], one(r.look(at[0]) == r.look(at[1])))
	case api.OpMust:
		must(r.look(at[0]) == r.look(at[1]))
	case api.OpCall:
		r.tell(at[0], r.fp)
		r.tell(at[1], r.f.Add(r.pc, 1))
	case api.OpBack:
		r.look(at[0])
		r.look(at[1])
		r.look(at[2])
	case api.OpTake:
		r.tell(at[0], r.rv)
	case api.OpPass:
		r.tell(at[1], r.look(at[0]))
	case api.OpZero, api.OpHalt:
		r.look(at[0])
	case api.OpJump:
	default:
		panic(stuck{})
	}
}

// move brings the registers behind an instruction whose cells are these.
func (r *run) move(in api.Ins, is [3]int) {
	pc := r.f.Add(r.pc, 1)
	switch in.Op {
	case api.OpJump:
		pc = r.f.Of(in.A)
	case api.OpZero:
		if is[0] == 0 {
			pc = r.f.Of(in.B)
		}
	case api.OpCall:
		pc = r.f.Of(in.A)
		r.fp = r.f.Add(r.ap, 2)
		r.ap = r.f.Add(r.fp, in.B)
	case api.OpBack:
		r.fp, pc, r.rv = is[0], is[1], is[2]
	}
	r.pc = pc
}

// look gives what a cell is.
func (r *run) look(at int) int {
	is, ok := r.told[at]
	if !ok {
		panic(blank{})
	}
	return is
}

// tell makes a cell what it is from then on.
func (r *run) tell(at, is int) {
	was, ok := r.told[at]
	must(!ok || was == is)
	r.told[at] = is
}

// must says what has to be so, if there is to be a next step.
func must(so bool) {
	if !so {
		panic(stuck{})
	}
}

// one is 1 where something is so, else 0.
func one(so bool) int {
	if so {
		return 1
	}
	return 0
}
