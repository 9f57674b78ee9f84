// Package codes helps the tests of all layers to lay instructions.
package codes

import (
	"slices"

	"colloquy/api"
	"colloquy/lists"
	"colloquy/tables"
)

// Same tells whether two instructions are the same; a list that is nil is like one without elements.
func Same(x, y api.Insn) bool {
	return x.Op == y.Op && x.A == y.A && x.B == y.B && x.C == y.C && x.D == y.D && slices.Equal(x.L, y.L)
}

// Deep is a copy of an instruction that shares nothing with it, with room behind its list.
func Deep(x api.Insn) api.Insn {
	x.L = lists.Roomy(x.L)
	return x
}

// Mixed is an instruction that may be.
func Mixed(r *tables.Row) api.Insn {
	registers := registersOf(r)
	x := api.Insn{Op: r.Below(api.LastOp + 1)}
	switch x.Op {
	case api.OpPush:
		x.A = Whole(r)
	case api.OpGet, api.OpPut, api.OpSend, api.OpRecv, api.OpClose:
		x.B = registers[0]
	case api.OpGive, api.OpTake, api.OpMove:
		x.B, x.C = registers[0], registers[1]
	case api.OpJump, api.OpJz:
		x.L = []int{r.Below(api.MaxCode)}
	case api.OpSelect:
		x.B, x.C = registers[0], r.Below(api.MaxLabels)
	case api.OpBranch:
		x.B = registers[0]
		for range 1 + r.Below(api.MaxLabels) {
			x.L = append(x.L, r.Below(api.MaxCode))
		}
	case api.OpNew:
		x.B, x.D, x.L = r.Below(api.MaxNodes), r.Below(api.MaxShift+1), registers[:2]
	case api.OpSpawn:
		x.B, x.L = r.Below(api.MaxTemplates), registers[:r.Below(api.MaxParams+1)]
	}
	return x
}

// Wild is an instruction in which any one number may be another, and the list a longer one or a shorter one; the other numbers are such as may be.
func Wild(r *tables.Row) api.Insn {
	x := Mixed(r)
	switch r.Below(8) {
	case 0:
		x.Op = tables.Any(r)
	case 1:
		x.A = int64(tables.Any(r))
	case 2:
		x.B = tables.Any(r)
	case 3:
		x.C = tables.Any(r)
	case 4:
		x.D = tables.Any(r)
	case 5:
		x.L = append(x.L, tables.Any(r))
	case 6:
		x.L = x.L[:r.Below(len(x.L)+1)]
	case 7:
		if len(x.L) > 0 {
			x.L[r.Below(len(x.L))] = tables.Any(r)
		}
	}
	return x
}

// Whole is a whole number, as often one with few digits as one with many.
func Whole(r *tables.Row) int64 {
	return int64(uint64(r.Below(1<<31))<<33|uint64(r.Below(1<<31))) >> r.Below(64)
}

// registersOf are all registers, in any order.
func registersOf(r *tables.Row) []int {
	l := make([]int, api.MaxRegs)
	for i := range l {
		j := r.Below(i + 1)
		l[i], l[j] = l[j], i
	}
	return l
}
