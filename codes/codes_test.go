package codes_test

import (
	"slices"
	"testing"

	"colloquy/api"
	"colloquy/codes"
	"colloquy/insn"
	"colloquy/tables"
)

func TestSameLooksAtAll(t *testing.T) {
	x := api.Insn{Op: 1, A: 2, B: 3, C: 4, D: 5, L: []int{6, 7}}
	if !codes.Same(x, api.Insn{Op: 1, A: 2, B: 3, C: 4, D: 5, L: []int{6, 7}}) {
		t.Error("an instruction is not the same as itself")
	}
	for i, change := range []func(y *api.Insn){
		func(y *api.Insn) { y.Op++ },
		func(y *api.Insn) { y.A = -2 },
		func(y *api.Insn) { y.B = 0 },
		func(y *api.Insn) { y.C = 3 },
		func(y *api.Insn) { y.D = 4 },
		func(y *api.Insn) { y.L = []int{6, 8} },
		func(y *api.Insn) { y.L = []int{6} },
		func(y *api.Insn) { y.L = nil },
	} {
		y := x
		change(&y)
		if codes.Same(x, y) || codes.Same(y, x) {
			t.Errorf("the change %d is not seen", i)
		}
	}
	if !codes.Same(api.Insn{}, api.Insn{L: []int{}}) {
		t.Error("an empty list is not like one that is nil")
	}
}

func TestACopySharesNothing(t *testing.T) {
	for _, x := range []api.Insn{{Op: api.OpNop}, {Op: api.OpJump, L: []int{}}, {Op: api.OpSpawn, B: 1, L: []int{4, 5}}} {
		was := slices.Clone(x.L)
		c := codes.Deep(x)
		if !codes.Same(c, x) || (c.L == nil) != (x.L == nil) || c.L != nil && cap(c.L) < len(c.L)+4 {
			t.Errorf("the copy of %v is %v", x, c)
		}
		for i := range c.L {
			c.L[i] = 99
		}
		if !slices.Equal(x.L, was) {
			t.Error("the copy shares with what it is of")
		}
	}
}

func TestMixedInstructionsMayBe(t *testing.T) {
	r := tables.Row(1)
	met := [api.LastOp + 1]int{}
	long := [9]int{}
	for range 5000 {
		x := codes.Mixed(&r)
		if e := insn.Check(x); e != api.OK {
			t.Fatalf("%v: %d", x, e)
		}
		met[x.Op]++
		long[len(x.L)]++
	}
	if slices.Min(met[:]) < 100 || slices.Min(long[:]) < 20 {
		t.Errorf("by their ops: %v; by how long their lists are: %v", met, long)
	}
}

func TestWildInstructionsAreOfAnySort(t *testing.T) {
	r := tables.Row(1)
	may, mayNot := [api.LastOp + 1]int{}, [api.LastOp + 1]int{}
	noOps, long := 0, [10]int{}
	for range 10000 {
		x := codes.Wild(&r)
		long[len(x.L)]++
		switch insn.Check(x) {
		case api.OK:
			may[x.Op]++
		case api.ErrOp:
			noOps++
		default:
			mayNot[x.Op]++
		}
	}
	if slices.Min(may[:]) < 20 || slices.Min(mayNot[:]) < 20 || noOps < 100 || slices.Min(long[:]) < 5 {
		t.Errorf("by their ops: %v may be, %v may not; %d are of no op; by how long their lists are: %v", may, mayNot, noOps, long)
	}
}

func TestWholeNumbersAreOfAllLengths(t *testing.T) {
	r := tables.Row(1)
	short, long, below := 0, 0, 0
	for range 1000 {
		switch n := codes.Whole(&r); {
		case n > -1000 && n < 1000:
			short++
		case n > 1<<50 || n < -1<<50:
			long++
		}
		if codes.Whole(&r) < 0 {
			below++
		}
	}
	if short < 50 || long < 50 || below < 200 || below > 800 {
		t.Errorf("%d are short, %d are long, %d are below 0", short, long, below)
	}
}
