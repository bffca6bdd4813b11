package rules

import "attest/api"

// notZero is 1 where v0 is not 0 and h shows it.
func (v *view) notZero() int { return v.Mul(v.row[h], v.row[v0]) }

// work is 0, where the cells of an instruction are what it looks at and tells.
func (v *view) work(_ int, in api.Ins) int {
	x, y, z := v.row[v0], v.row[v1], v.row[v2]
	switch in.Op {
	case api.OpAdd:
		return v.Sub(v.Add(x, y), z)
	case api.OpSub:
		return v.Sub(v.Sub(x, y), z)
	case api.OpMul:
		return v.Sub(v.Mul(x, y), z)
	case api.OpDiv:
		return v.Sub(v.Mul(z, y), x)
	case api.OpSet:
		return v.Sub(x, in.B)
	case api.OpSame:
		return v.Sub(v.Mul(v.Sub(x, y), v.row[h]), v.Sub(1, z))
	case api.OpMust, api.OpPass:
		return v.Sub(x, y)
	case api.OpZero:
		return v.Mul(x, v.Sub(1, v.notZero()))
	case api.OpCall:
		return v.Sub(x, v.row[fp])
	case api.OpTake:
		return v.Sub(x, v.row[rv])
	case api.OpHalt, api.OpJump, api.OpBack:
		return 0
	}
	return 1
}

// moreWork is 0 likewise, for instructions that ask for two things.
func (v *view) moreWork(k int, in api.Ins) int {
	switch in.Op {
	case api.OpDiv:
		return v.Sub(v.Mul(v.row[h], v.row[v1]), 1)
	case api.OpSame:
		return v.Mul(v.row[v2], v.Sub(v.row[v0], v.row[v1]))
	case api.OpCall:
		return v.Sub(v.row[v1], k+1)
	}
	return 0
}

// nextPC is the number of the instruction behind this one.
func (v *view) nextPC(k int, in api.Ins) int {
	switch in.Op {
	case api.OpHalt:
		return k
	case api.OpJump, api.OpCall:
		return in.A
	case api.OpZero:
		return v.Add(v.Mul(v.Sub(1, v.notZero()), in.B), v.Mul(v.notZero(), k+1))
	case api.OpBack:
		return v.row[v1]
	}
	return k + 1
}

// nextFP is fp behind an instruction.
func (v *view) nextFP(_ int, in api.Ins) int {
	switch in.Op {
	case api.OpCall:
		return v.Add(v.row[ap], 2)
	case api.OpBack:
		return v.row[v0]
	}
	return v.row[fp]
}

// nextAP is ap behind an instruction.
func (v *view) nextAP(_ int, in api.Ins) int {
	if in.Op == api.OpCall {
		return v.Add(v.Add(v.row[ap], 2), in.B)
	}
	return v.row[ap]
}

// nextRV is rv behind an instruction.
func (v *view) nextRV(_ int, in api.Ins) int {
	if in.Op == api.OpBack {
		return v.row[v2]
	}
	return v.row[rv]
}
