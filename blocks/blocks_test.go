package blocks_test

import (
	"math"
	"slices"
	"testing"

	"colloquy/api"
	"colloquy/blocks"
	"colloquy/codes"
	"colloquy/tables"
)

// at is an instruction of an op, with a list.
func at(op int, l ...int) api.Insn { return api.Insn{Op: op, L: l} }

func jump(to int) api.Insn { return at(api.OpJump, to) }

func jz(to int) api.Insn { return at(api.OpJz, to) }

func branch(to ...int) api.Insn { return at(api.OpBranch, to...) }

func nop() api.Insn { return at(api.OpNop) }

func recv() api.Insn { return at(api.OpRecv) }

func halt() api.Insn { return at(api.OpHalt) }

// rowOf is a code of so many instructions, all the same.
func rowOf(x api.Insn, count int) []api.Insn {
	var l []api.Insn
	for range count {
		l = append(l, codes.Deep(x))
	}
	return l
}

// What ops are, by the chapter's words.
var (
	closing = []int{api.OpJump, api.OpBranch, api.OpHalt}
	talking = []int{api.OpSend, api.OpRecv, api.OpGive, api.OpTake, api.OpSelect, api.OpBranch}
	aiming  = []int{api.OpJump, api.OpJz, api.OpBranch}
)

// allOps are all ops that there are.
func allOps() []int {
	var l []int
	for op := range api.LastOp + 1 {
		l = append(l, op)
	}
	return l
}

// noOps are numbers that are no op; some of them are one by their lowest bits.
func noOps() []int {
	return append(tables.OddNumbers(), 25, 26, 31, 32, 63, 64, 127, 128, 255, 256+api.OpJump, 256+api.OpSend, 1<<32+api.OpBranch, api.OpHalt-256)
}

// deep is a copy of a code that shares nothing with it, with room behind it and its lists.
func deep(code []api.Insn) []api.Insn {
	if code == nil {
		return nil
	}
	l := make([]api.Insn, 0, len(code)+4)
	for _, x := range code {
		l = append(l, codes.Deep(x))
	}
	return l
}

// sameInsn tells whether two instructions are the same, also in whether their lists are nil.
func sameInsn(x, y api.Insn) bool {
	isSame := x.Op == y.Op && x.A == y.A && x.B == y.B && x.C == y.C && x.D == y.D
	return isSame && (x.L == nil) == (y.L == nil) && slices.Equal(x.L, y.L)
}

// wantKept asks that a code that was handed in, a copy by deep, is as it was, and so is the room behind it.
func wantKept(t *testing.T, given, was []api.Insn) {
	t.Helper()
	if (given == nil) != (was == nil) || !slices.EqualFunc(given, was, sameInsn) {
		t.Errorf("%v was handed in, and is %v now", was, given)
	}
	for _, x := range given[len(given):cap(given)] {
		if !sameInsn(x, api.Insn{}) {
			t.Errorf("%v: %v was laid behind it", was, x)
		}
	}
	for _, x := range given {
		wantNoughts(t, x.L[len(x.L):cap(x.L)])
	}
}

// wantNoughts asks that nothing was laid in the room behind a list.
func wantNoughts(t *testing.T, room []int) {
	t.Helper()
	if !slices.Equal(room, make([]int, len(room))) {
		t.Errorf("%v was laid behind a list", room)
	}
}

// spoil lays other numbers in a list, and in the room behind it.
func spoil(l []int) {
	l = l[:cap(l)]
	for i := range l {
		l[i] = -77
	}
}

// wantTargets asks for what Targets answers, again also where the first answer was changed.
func wantTargets(t *testing.T, x api.Insn, want ...int) {
	t.Helper()
	given := codes.Deep(x)
	for range 2 {
		got := blocks.Targets(given)
		if !slices.Equal(got, want) {
			t.Errorf("Targets of %v: %v, but %v is asked for", x, got, want)
		}
		spoil(got)
	}
	wantKept(t, []api.Insn{given}, []api.Insn{x})
}

// wantGoes asks for what Goes answers, again also where the first answer was changed.
func wantGoes(t *testing.T, code []api.Insn, i int, want ...int) {
	t.Helper()
	given := deep(code)
	for range 2 {
		got := blocks.Goes(given, i)
		if !slices.Equal(got, want) {
			t.Errorf("Goes of %v at %d: %v, but %v is asked for", code, i, got, want)
		}
		spoil(got)
	}
	wantKept(t, given, code)
}

// wantAnswer asks for what Cut answers, again also where the first answer was changed.
func wantAnswer(t *testing.T, code []api.Insn, f api.Flow, place int, e api.Errno) {
	t.Helper()
	given := deep(code)
	for range 2 {
		got, at, err := blocks.Cut(given)
		if err != e || at != place || !slices.Equal(got.Starts, f.Starts) || !slices.EqualFunc(got.Next, f.Next, slices.Equal) {
			t.Errorf("Cut of %v: %v, %d, %d, but %v, %d, %d is asked for", code, got, at, err, f, place, e)
		}
		wantApart(t, got)
	}
	wantKept(t, given, code)
}

// wantApart asks that no two lists of a flow share anything, by changing one behind the other. All of them are changed at the end.
func wantApart(t *testing.T, f api.Flow) {
	t.Helper()
	lists := append([][]int{f.Starts}, f.Next...)
	for _, l := range lists {
		if slices.Contains(l[:cap(l)], -77) {
			t.Errorf("%v: lists of one answer share what is in them", f)
		}
		spoil(l)
	}
}

// wantFlow asks for blocks: where they begin, and to which each of them goes.
func wantFlow(t *testing.T, code []api.Insn, starts []int, next ...[]int) {
	t.Helper()
	wantAnswer(t, code, api.Flow{Starts: starts, Next: next}, -1, api.OK)
}

// wantNoFlow asks for an error, and its place.
func wantNoFlow(t *testing.T, code []api.Insn, e api.Errno, place int) {
	t.Helper()
	wantAnswer(t, code, api.Flow{}, place, e)
}

// P10.1

func TestClosesAndTalks(t *testing.T) {
	for _, op := range allOps() {
		if got := blocks.Closes(op); got != slices.Contains(closing, op) {
			t.Errorf("Closes of %d: %v", op, got)
		}
		if got := blocks.Talks(op); got != slices.Contains(talking, op) {
			t.Errorf("Talks of %d: %v", op, got)
		}
	}
	for _, op := range noOps() {
		if blocks.Closes(op) || blocks.Talks(op) {
			t.Errorf("%d is no op", op)
		}
	}
}

func TestTargets(t *testing.T) {
	lists := [][]int{{0}, {5}, {4, 9}, {9, 4, 0}, {3, 3}, {2, 7, 2}, {-1}, {128, -5, math.MaxInt, math.MinInt}, make([]int, 300)}
	for _, l := range lists {
		for _, op := range allOps() {
			x := api.Insn{Op: op, A: 6, B: 1, C: 2, D: 3, L: l}
			if slices.Contains(aiming, op) {
				wantTargets(t, x, l...)
			} else {
				wantTargets(t, x)
			}
		}
		for _, op := range noOps() {
			wantTargets(t, at(op, l...))
		}
	}
}

func TestTargetsOfListsWithoutElements(t *testing.T) {
	for _, op := range append(allOps(), noOps()...) {
		wantTargets(t, api.Insn{Op: op, B: 4})
		wantTargets(t, api.Insn{Op: op, L: []int{}})
	}
}

func TestGoesOfEachOp(t *testing.T) {
	for _, op := range append(allOps(), noOps()...) {
		for _, l := range [][]int{nil, {0}, {1}, {2}, {4}, {3, 0, 3}, {-1, 99}} {
			var want []int
			if slices.Contains(aiming, op) {
				want = slices.Clone(l)
			}
			if !slices.Contains(closing, op) {
				want = append(want, 2)
			}
			wantGoes(t, []api.Insn{halt(), at(op, l...), nop(), nop()}, 1, want...)
			wantGoes(t, []api.Insn{halt(), at(op, l...)}, 1, want...)
		}
	}
}

func TestGoesAheadBehindAndToItself(t *testing.T) {
	code := []api.Insn{nop(), jump(3), jz(0), branch(4, 3, 0, 4), jz(4), jz(6), recv(), halt(), jump(2), jump(9), nop()}
	for i, want := range [][]int{{1}, {3}, {0, 3}, {4, 3, 0, 4}, {4, 5}, {6, 6}, {7}, nil, {2}, {9}, {11}} {
		wantGoes(t, code, i, want...)
	}
}

func TestGoesOfNoInstruction(t *testing.T) {
	for _, code := range [][]api.Insn{nil, {}, {nop()}, {halt(), jump(0), jz(1)}, rowOf(nop(), 128)} {
		for _, i := range append(tables.OddNumbers(), len(code), len(code)+1, len(code)+1000) {
			wantGoes(t, code, i)
		}
	}
}

// Goes asks for no code that may be.
func TestGoesOfALongCode(t *testing.T) {
	code := append(rowOf(nop(), 300), jz(7), halt())
	wantGoes(t, code, 0, 1)
	wantGoes(t, code, 299, 300)
	wantGoes(t, code, 300, 7, 301)
	wantGoes(t, code, 301)
	wantGoes(t, code, 302)
}

// P10.2

func TestExamplesOfCut(t *testing.T) {
	wantFlow(t, []api.Insn{halt()}, []int{0}, nil)
	wantFlow(t, []api.Insn{nop(), recv(), jump(0)}, []int{0}, []int{0})
	wantNoFlow(t, []api.Insn{nop(), jump(0)}, api.ErrSilent, 0)
	wantNoFlow(t, []api.Insn{jump(2), nop(), halt()}, api.ErrDead, 1)
	wantFlow(t, []api.Insn{jz(2), halt(), halt()}, []int{0, 1, 2}, []int{2, 1}, nil, nil)
	wantNoFlow(t, []api.Insn{nop()}, api.ErrJump, 0)
}

func TestHowManyInstructions(t *testing.T) {
	wantNoFlow(t, nil, api.ErrArg, -1)
	wantNoFlow(t, []api.Insn{}, api.ErrArg, -1)
	for _, count := range []int{1, 2, 127, 128} {
		wantFlow(t, append(rowOf(nop(), count-1), halt()), []int{0}, nil)
		wantFlow(t, append(rowOf(recv(), count-1), branch(0)), []int{0}, []int{0})
	}
	for _, count := range []int{129, 130, 256, 1000} {
		wantNoFlow(t, append(rowOf(nop(), count-1), halt()), api.ErrArg, -1)
		wantNoFlow(t, rowOf(nop(), count), api.ErrArg, -1)
		wantNoFlow(t, rowOf(jump(-1), count), api.ErrArg, -1)
		wantNoFlow(t, rowOf(halt(), count), api.ErrArg, -1)
		wantNoFlow(t, rowOf(jump(0), count), api.ErrArg, -1)
	}
}

func TestHowManyTargets(t *testing.T) {
	for _, op := range []int{api.OpJump, api.OpJz} {
		wantNoFlow(t, []api.Insn{at(op), halt()}, api.ErrJump, 0)
		wantNoFlow(t, []api.Insn{{Op: op, L: []int{}}, halt()}, api.ErrJump, 0)
		wantNoFlow(t, []api.Insn{at(op, 1, 1), halt()}, api.ErrJump, 0)
		wantNoFlow(t, []api.Insn{at(op, 1, 0, 1), halt()}, api.ErrJump, 0)
	}
	wantFlow(t, []api.Insn{jump(1), halt()}, []int{0, 1}, []int{1}, nil)
	wantFlow(t, []api.Insn{jz(1), halt()}, []int{0, 1}, []int{1, 1}, nil)
	wantNoFlow(t, []api.Insn{branch(), halt()}, api.ErrJump, 0)
	wantNoFlow(t, []api.Insn{{Op: api.OpBranch, L: []int{}}, halt()}, api.ErrJump, 0)
	wantFlow(t, []api.Insn{branch(1), halt()}, []int{0, 1}, []int{1}, nil)
	wantFlow(t, []api.Insn{branch(1, 0, 1), halt()}, []int{0, 1}, []int{1, 0, 1}, nil)
	many := slices.Repeat([]int{1}, 300)
	wantFlow(t, []api.Insn{branch(many...), halt()}, []int{0, 1}, many, nil)
}

// Lists of ops that have no targets count for nothing.
func TestListsThatAreNoTargets(t *testing.T) {
	for _, op := range append(allOps(), noOps()...) {
		if slices.Contains(aiming, op) {
			continue
		}
		for _, l := range [][]int{{0}, {1}, {2}, {-1, 99}, {math.MinInt}} {
			x := at(op, l...)
			if slices.Contains(closing, op) {
				wantFlow(t, []api.Insn{nop(), nop(), x}, []int{0}, nil)
			} else {
				wantFlow(t, []api.Insn{x, nop(), x, halt()}, []int{0}, nil)
			}
		}
	}
}

// Each target in turn is the first one, one in the middle, and the last one.
func TestTargetsThatAreNoInstruction(t *testing.T) {
	for _, to := range append(tables.OddNumbers(), 3, 4, 127, 128) {
		for _, x := range []api.Insn{jump(to), jz(to), branch(to), branch(to, 1, 2), branch(1, to, 2), branch(1, 2, to)} {
			wantNoFlow(t, []api.Insn{x, recv(), halt()}, api.ErrJump, 0)
			wantNoFlow(t, []api.Insn{nop(), x, halt()}, api.ErrJump, 1)
			wantNoFlow(t, []api.Insn{nop(), nop(), x}, api.ErrJump, 2)
		}
	}
}

func TestTargetsAtBothEnds(t *testing.T) {
	wantFlow(t, []api.Insn{recv(), jz(0), halt()}, []int{0, 2}, []int{0, 1}, nil)
	wantFlow(t, []api.Insn{recv(), jz(3), recv(), halt()}, []int{0, 2, 3}, []int{2, 1}, []int{2}, nil)
	wantFlow(t, []api.Insn{nop(), branch(2, 0), halt()}, []int{0, 2}, []int{1, 0}, nil)
	wantNoFlow(t, []api.Insn{recv(), jz(-1), halt()}, api.ErrJump, 1)
	wantNoFlow(t, []api.Insn{recv(), jz(3), halt()}, api.ErrJump, 1)
	wantNoFlow(t, []api.Insn{branch(0, 2), halt()}, api.ErrJump, 0)
	long := append(rowOf(recv(), 126), jz(127), halt())
	wantFlow(t, long, []int{0, 127}, []int{1, 1}, nil)
	long[126] = jz(128)
	wantNoFlow(t, long, api.ErrJump, 126)
}

func TestTheLastInstruction(t *testing.T) {
	for _, op := range append(allOps(), noOps()...) {
		x := api.Insn{Op: op}
		if slices.Contains(aiming, op) {
			x.L = []int{0}
		}
		for _, ahead := range []int{0, 1, 5, 127} {
			code := append(rowOf(recv(), ahead), x)
			switch {
			case !slices.Contains(closing, op):
				wantNoFlow(t, code, api.ErrJump, ahead)
			case op == api.OpHalt:
				wantFlow(t, code, []int{0}, nil)
			case op == api.OpJump && ahead == 0:
				wantNoFlow(t, code, api.ErrSilent, 0)
			default:
				wantFlow(t, code, []int{0}, []int{0})
			}
		}
	}
}

func TestWhichOneIsAstray(t *testing.T) {
	wantNoFlow(t, []api.Insn{nop(), jz(9), jump(-1), nop()}, api.ErrJump, 1)
	wantNoFlow(t, []api.Insn{nop(), branch(), jump(-1), nop()}, api.ErrJump, 1)
	wantNoFlow(t, []api.Insn{nop(), nop(), jump(4), branch()}, api.ErrJump, 2)
	wantNoFlow(t, []api.Insn{at(api.OpJump, 0, 1), jump(7), nop()}, api.ErrJump, 0)
	wantNoFlow(t, []api.Insn{nop(), jump(7), at(api.OpJump, 0, 1)}, api.ErrJump, 1)
	wantNoFlow(t, []api.Insn{nop(), recv(), jz(0)}, api.ErrJump, 2)
	wantNoFlow(t, []api.Insn{jz(3), recv(), nop()}, api.ErrJump, 0)
	wantNoFlow(t, []api.Insn{jz(2), recv(), nop()}, api.ErrJump, 2)
}

func TestWhichErrorIsTold(t *testing.T) {
	dead := []api.Insn{jump(2), nop(), halt()}
	silent := []api.Insn{nop(), jz(0), halt()}
	wantNoFlow(t, append(slices.Clone(dead), nop()), api.ErrJump, 3)
	wantNoFlow(t, append(slices.Clone(silent), nop()), api.ErrJump, 3)
	wantNoFlow(t, append(slices.Clone(silent), nop(), halt()), api.ErrDead, 3)
	wantNoFlow(t, []api.Insn{jump(0), recv(), jump(9)}, api.ErrJump, 2)
	wantNoFlow(t, []api.Insn{jump(0), recv(), jump(2)}, api.ErrDead, 1)
	wantNoFlow(t, []api.Insn{jump(0), halt()}, api.ErrDead, 1)
	wantNoFlow(t, append(silent, rowOf(nop(), 126)...), api.ErrArg, -1)
	wantNoFlow(t, append(dead, rowOf(halt(), 126)...), api.ErrArg, -1)
}

func TestDeadBlocks(t *testing.T) {
	for _, x := range []api.Insn{halt(), jump(0), branch(0, 0)} {
		wantNoFlow(t, []api.Insn{recv(), x, halt()}, api.ErrDead, 2)
		wantNoFlow(t, []api.Insn{recv(), x, recv(), halt()}, api.ErrDead, 2)
	}
	wantNoFlow(t, []api.Insn{jump(2), halt(), halt()}, api.ErrDead, 1)
	wantNoFlow(t, []api.Insn{branch(3), nop(), recv(), halt()}, api.ErrDead, 1)
	wantNoFlow(t, []api.Insn{jump(3), recv(), jump(1), halt()}, api.ErrDead, 1)
	wantNoFlow(t, []api.Insn{jump(4), recv(), halt(), halt(), jump(1)}, api.ErrDead, 1)
	wantNoFlow(t, []api.Insn{jump(3), recv(), halt(), recv(), jz(1), halt()}, api.ErrDead, 1)
}

// A block is dead also if it goes to itself, or only blocks that come later go to it.
func TestBlocksToWhichNoneGoesForward(t *testing.T) {
	wantNoFlow(t, []api.Insn{jump(3), recv(), jump(1), halt()}, api.ErrDead, 1)
	wantNoFlow(t, []api.Insn{jump(2), branch(1), halt()}, api.ErrDead, 1)
	wantNoFlow(t, []api.Insn{jump(2), halt(), branch(1, 2)}, api.ErrDead, 1)
	wantFlow(t, []api.Insn{jz(2), halt(), branch(1, 2)}, []int{0, 1, 2}, []int{2, 1}, nil, []int{1, 2})
	wantFlow(t, []api.Insn{nop(), recv(), jz(1), halt()}, []int{0, 1, 3}, []int{1}, []int{1, 2}, nil)
}

func TestNoneMustGoToTheFirstBlock(t *testing.T) {
	wantFlow(t, []api.Insn{nop(), halt()}, []int{0}, nil)
	wantFlow(t, []api.Insn{jump(1), halt()}, []int{0, 1}, []int{1}, nil)
	wantFlow(t, []api.Insn{recv(), jump(2), halt()}, []int{0, 2}, []int{1}, nil)
}

func TestWhichDeadBlockIsTold(t *testing.T) {
	wantNoFlow(t, []api.Insn{halt(), halt(), halt(), halt()}, api.ErrDead, 1)
	wantNoFlow(t, []api.Insn{jz(3), halt(), nop(), halt(), halt(), halt()}, api.ErrDead, 2)
	wantNoFlow(t, []api.Insn{jz(2), halt(), nop(), halt(), halt(), halt()}, api.ErrDead, 4)
	wantNoFlow(t, []api.Insn{jump(2), nop(), jump(5), nop(), nop(), halt()}, api.ErrDead, 1)
	wantNoFlow(t, []api.Insn{recv(), nop(), jump(6), nop(), halt(), nop(), halt(), nop(), halt()}, api.ErrDead, 3)
	// The one at 3 is not dead by the words, as the one at 1 goes to it; but that one is.
	wantNoFlow(t, []api.Insn{jump(4), nop(), jump(3), halt(), halt()}, api.ErrDead, 1)
}

func TestRoundsOfOneInstruction(t *testing.T) {
	wantNoFlow(t, []api.Insn{jump(0)}, api.ErrSilent, 0)
	wantNoFlow(t, []api.Insn{jz(0), halt()}, api.ErrSilent, 0)
	wantNoFlow(t, []api.Insn{recv(), recv(), jump(2)}, api.ErrSilent, 2)
	wantNoFlow(t, []api.Insn{recv(), jz(1), halt()}, api.ErrSilent, 1)
	wantFlow(t, []api.Insn{branch(0)}, []int{0}, []int{0})
	wantFlow(t, []api.Insn{nop(), branch(1, 1)}, []int{0, 1}, []int{1}, []int{1, 1})
}

func TestRoundsWithAnInstructionThatTalks(t *testing.T) {
	for length := 1; length <= 6; length++ {
		round := append(rowOf(nop(), length), jump(0))
		wantNoFlow(t, round, api.ErrSilent, 0)
		wantNoFlow(t, append([]api.Insn{recv(), recv()}, append(rowOf(nop(), length), jump(2))...), api.ErrSilent, 2)
		for _, op := range allOps() {
			isTalking := slices.Contains(talking, op)
			for place := range length {
				code := slices.Clone(round)
				switch code[place] = at(op); {
				case slices.Contains(aiming, op) || slices.Contains(closing, op):
				case isTalking:
					wantFlow(t, code, []int{0}, []int{0})
				default:
					wantNoFlow(t, code, api.ErrSilent, 0)
				}
			}
		}
		wantFlow(t, append(rowOf(nop(), length), branch(0)), []int{0}, []int{0})
	}
	for _, op := range noOps() {
		wantNoFlow(t, []api.Insn{at(op), jump(0)}, api.ErrSilent, 0)
	}
}

// Rounds in which the ways go elsewhere in between.
func TestRoundsOfSeveralBlocks(t *testing.T) {
	wantNoFlow(t, []api.Insn{jz(2), jump(0), jump(1)}, api.ErrSilent, 0)
	wantNoFlow(t, []api.Insn{recv(), jz(3), jump(1), halt()}, api.ErrSilent, 1)
	wantNoFlow(t, []api.Insn{jz(3), recv(), jump(0), jump(0)}, api.ErrSilent, 0)
	wantFlow(t, []api.Insn{jz(3), recv(), jump(0), branch(0)}, []int{0, 1, 3}, []int{2, 1}, []int{0}, []int{0})
	wantNoFlow(t, []api.Insn{jz(3), recv(), jump(0), nop(), nop(), jz(0), halt()}, api.ErrSilent, 0)
	wantFlow(t, []api.Insn{jz(3), recv(), jump(0), nop(), recv(), jz(0), halt()}, []int{0, 1, 3, 6}, []int{2, 1}, []int{0}, []int{0, 3}, nil)
}

// A silent round is told also if it shares instructions with one that talks, and none that is not on it.
func TestRoundsThatShareInstructions(t *testing.T) {
	// The way over 2 talks; the one over 5 does not.
	wantNoFlow(t, []api.Insn{nop(), jz(5), recv(), jump(0), halt(), jump(0)}, api.ErrDead, 4)
	wantNoFlow(t, []api.Insn{nop(), jz(4), recv(), jump(0), jump(0)}, api.ErrSilent, 0)
	// The small round, 1 and 2, is silent; the great one talks at 0.
	wantNoFlow(t, []api.Insn{recv(), nop(), jz(1), jump(0)}, api.ErrSilent, 1)
	// The small round talks at 1; the great one, over it, does as well.
	wantFlow(t, []api.Insn{nop(), recv(), jz(1), jump(0)}, []int{0, 1, 3}, []int{1}, []int{1, 2}, []int{0})
	// The great one goes around 2, which talks.
	wantNoFlow(t, []api.Insn{nop(), jz(4), recv(), jz(1), jump(0)}, api.ErrSilent, 0)
	wantNoFlow(t, []api.Insn{recv(), jz(4), recv(), jz(1), jump(1)}, api.ErrSilent, 1)
}

func TestSilentWaysIntoARoundAndOut(t *testing.T) {
	wantNoFlow(t, []api.Insn{nop(), nop(), nop(), jz(2), nop(), halt()}, api.ErrSilent, 2)
	wantNoFlow(t, []api.Insn{nop(), jump(2), jz(4), jump(2), nop(), halt()}, api.ErrSilent, 2)
	wantFlow(t, []api.Insn{nop(), nop(), recv(), jz(2), nop(), halt()}, []int{0, 2, 4}, []int{1}, []int{1, 2}, nil)
	wantNoFlow(t, []api.Insn{jz(3), nop(), halt(), nop(), jz(3), halt()}, api.ErrSilent, 3)
	// The way that is looked at first, by the target of 0, comes to the round, 3 and 4, but is not on it.
	wantNoFlow(t, []api.Insn{jz(3), recv(), jump(0), nop(), jz(3), branch(0)}, api.ErrSilent, 3)
}

func TestWhichSilentRoundIsTold(t *testing.T) {
	wantNoFlow(t, []api.Insn{nop(), jz(1), nop(), jz(3), halt()}, api.ErrSilent, 1)
	wantNoFlow(t, []api.Insn{nop(), recv(), jz(1), nop(), jz(3), nop(), jz(5), halt()}, api.ErrSilent, 3)
	wantNoFlow(t, []api.Insn{nop(), nop(), jz(1), nop(), jz(0), halt()}, api.ErrSilent, 0)
	// The round that is found first, going on from 0, has its first instruction at 2; the one at 1 is on another one.
	wantNoFlow(t, []api.Insn{jz(2), jz(1), jump(2)}, api.ErrSilent, 1)
	// From 0 on, the round is come to at 3; at 1, ahead of it, it goes on in the second one alone.
	wantNoFlow(t, []api.Insn{jz(3), nop(), halt(), jz(1), jump(3)}, api.ErrSilent, 3)
	wantNoFlow(t, []api.Insn{jz(3), nop(), jump(3), jz(1), halt()}, api.ErrSilent, 1)
}

// Rounds over all of a code's 128 instructions.
func TestLongRounds(t *testing.T) {
	code := append(rowOf(nop(), 127), jump(0))
	wantNoFlow(t, code, api.ErrSilent, 0)
	for _, place := range []int{0, 1, 63, 126} {
		code[place] = recv()
		wantFlow(t, code, []int{0}, []int{0})
		code[place] = nop()
	}
	var starts []int
	var next [][]int
	for i := range 127 {
		code[i] = jz(127)
		starts, next = append(starts, i), append(next, []int{127, i + 1})
	}
	wantNoFlow(t, code, api.ErrSilent, 0)
	code[127] = branch(starts...)
	wantFlow(t, code, append(starts, 127), append(next, starts)...)
	code[127] = halt()
	wantFlow(t, code, append(starts, 127), append(next, nil)...)
}

func TestWhereBlocksBegin(t *testing.T) {
	// Behind a jz, and at its target, to which the block ahead of it goes, too.
	wantFlow(t, []api.Insn{nop(), jz(4), nop(), nop(), nop(), halt()}, []int{0, 2, 4}, []int{2, 1}, []int{2}, nil)
	// Behind a halt, a jump and a branch, and in the middle of what would be a block.
	wantFlow(t, []api.Insn{jz(2), halt(), jz(4), jump(5), recv(), branch(6, 7), nop(), halt()},
		[]int{0, 1, 2, 3, 4, 5, 6, 7}, []int{2, 1}, nil, []int{4, 3}, []int{5}, []int{5}, []int{6, 7}, []int{7}, nil)
	// Nowhere else: no other op ends a block.
	for _, op := range append(allOps(), noOps()...) {
		if !slices.Contains(closing, op) && !slices.Contains(aiming, op) {
			wantFlow(t, []api.Insn{at(op), at(op), recv(), at(op), jump(0)}, []int{0}, []int{0})
		}
	}
}

func TestABlockThatGoesToOneTwice(t *testing.T) {
	wantFlow(t, []api.Insn{branch(1, 1), halt()}, []int{0, 1}, []int{1, 1}, nil)
	wantFlow(t, []api.Insn{branch(2, 1, 2, 0, 0), halt(), halt()}, []int{0, 1, 2}, []int{2, 1, 2, 0, 0}, nil, nil)
	wantFlow(t, []api.Insn{nop(), jz(2), nop(), jz(4), halt()}, []int{0, 2, 4}, []int{1, 1}, []int{2, 2}, nil)
}

func TestWaysBackAndToItself(t *testing.T) {
	wantFlow(t, []api.Insn{nop(), recv(), nop(), jz(1), nop(), jump(0)}, []int{0, 1, 4}, []int{1}, []int{1, 2}, []int{0})
	wantFlow(t, []api.Insn{jz(3), nop(), halt(), recv(), branch(3, 0, 1, 5), halt()},
		[]int{0, 1, 3, 5}, []int{2, 1}, nil, []int{2, 0, 1, 3}, nil)
}

func TestBlocksWhoseLastInstructionClosesNothing(t *testing.T) {
	for _, op := range append(allOps(), noOps()...) {
		if slices.Contains(closing, op) || op == api.OpJz {
			continue
		}
		wantFlow(t, []api.Insn{jz(3), nop(), at(op), halt()}, []int{0, 1, 3}, []int{2, 1}, []int{2}, nil)
		wantFlow(t, []api.Insn{at(op), recv(), jump(1)}, []int{0, 1}, []int{1}, []int{1})
	}
}

// Other operands of instructions count for nothing.
func TestOtherOperands(t *testing.T) {
	code := []api.Insn{
		{Op: api.OpJz, A: -1, B: 99, C: -3, D: 5, L: []int{2}},
		{Op: api.OpHalt, A: math.MinInt64, B: math.MaxInt, C: 1, D: -1, L: []int{-1}},
		{Op: api.OpBranch, A: 1, B: -1, C: 2, D: 3, L: []int{2, 0}},
	}
	wantFlow(t, code, []int{0, 1, 2}, []int{2, 1}, nil, []int{2, 0})
}

// P10.1 and P10.2, as they are told

// goesPlainly is where an instruction goes to, by the chapter's words.
func goesPlainly(code []api.Insn, i int) []int {
	switch x := code[i]; x.Op {
	case api.OpJump, api.OpBranch:
		return x.L
	case api.OpHalt:
		return nil
	case api.OpJz:
		return append(slices.Clone(x.L), i+1)
	default:
		return []int{i + 1}
	}
}

// isAstray tells, by the chapter's words, whether the instruction i is one for which ErrJump is asked.
func isAstray(code []api.Insn, i int) bool {
	x, isWrong := code[i], false
	switch x.Op {
	case api.OpJump, api.OpJz:
		isWrong = len(x.L) != 1
	case api.OpBranch:
		isWrong = len(x.L) == 0
	default:
		x.L = nil
	}
	for _, to := range x.L {
		isWrong = isWrong || to < 0 || to >= len(code)
	}
	return isWrong || i == len(code)-1 && !slices.Contains(closing, x.Op)
}

// flowPlainly is the flow of a code in which no instruction is astray, by the chapter's words.
func flowPlainly(code []api.Insn) api.Flow {
	var f api.Flow
	block := make([]int, len(code)) // of which each instruction is one
	for i := range code {
		begins := i == 0 || slices.Contains([]int{api.OpJump, api.OpJz, api.OpBranch, api.OpHalt}, code[i-1].Op)
		for _, x := range code {
			begins = begins || slices.Contains(aiming, x.Op) && slices.Contains(x.L, i)
		}
		if begins {
			f.Starts = append(f.Starts, i)
		}
		block[i] = len(f.Starts) - 1
	}
	for i := range code {
		if i+1 < len(code) && block[i] == block[i+1] {
			continue
		}
		var next []int
		for _, to := range goesPlainly(code, i) {
			next = append(next, block[to])
		}
		f.Next = append(f.Next, next)
	}
	return f
}

// isDead tells, by the chapter's words, whether no block goes forward to one.
func isDead(f api.Flow, block int) bool {
	for from, next := range f.Next {
		if from < block && slices.Contains(next, block) {
			return false
		}
	}
	return block > 0
}

// silentPlainly is the first instruction on a silent round: from each one it is told to which ones there are ways over none that talks, longer and longer ones.
func silentPlainly(code []api.Insn) (int, bool) {
	can := make([][]bool, len(code))
	for i := range code {
		can[i] = make([]bool, len(code))
		if !slices.Contains(talking, code[i].Op) {
			for _, to := range goesPlainly(code, i) {
				can[i][to] = true
			}
		}
	}
	for over := range code {
		for from := range code {
			for to := range code {
				can[from][to] = can[from][to] || can[from][over] && can[over][to]
			}
		}
	}
	for i := range code {
		if can[i][i] {
			return i, true
		}
	}
	return 0, false
}

// cutPlainly is what Cut must answer, by the chapter's words.
func cutPlainly(code []api.Insn) (api.Flow, int, api.Errno) {
	if len(code) == 0 || len(code) > 128 {
		return api.Flow{}, -1, api.ErrArg
	}
	for i := range code {
		if isAstray(code, i) {
			return api.Flow{}, i, api.ErrJump
		}
	}
	f := flowPlainly(code)
	for block, start := range f.Starts {
		if isDead(f, block) {
			return api.Flow{}, start, api.ErrDead
		}
	}
	if i, is := silentPlainly(code); is {
		return api.Flow{}, i, api.ErrSilent
	}
	return f, -1, api.OK
}

// tally counts what was answered.
type tally map[api.Errno]int

// hold asks for what the chapter's words ask of a code, and for what follows.
func (n tally) hold(t *testing.T, code []api.Insn) {
	t.Helper()
	f, at, e := cutPlainly(code)
	wantAnswer(t, code, f, at, e)
	for i := range code {
		wantGoes(t, code, i, goesPlainly(code, i)...)
	}
	if e == api.OK {
		wantWhatFollows(t, code)
	}
	n[e]++
	if t.Failed() {
		t.FailNow()
	}
}

// wantMany asks that each of these was answered so many times.
func (n tally) wantMany(t *testing.T, least int, all ...api.Errno) {
	t.Helper()
	for _, e := range all {
		if n[e] < least {
			t.Errorf("%d: %d times, but %d are asked for", e, n[e], least)
		}
	}
}

// wantAllCodes holds all codes of so many instructions out of a pool.
func wantAllCodes(t *testing.T, n tally, length int, pool []api.Insn) {
	t.Helper()
	code := make([]api.Insn, length)
	var lay func(place int)
	lay = func(place int) {
		if place == length {
			n.hold(t, code)
			return
		}
		for _, x := range pool {
			code[place] = x
			lay(place + 1)
		}
	}
	lay(0)
}

func TestAllShortCodes(t *testing.T) {
	n := tally{}
	for length := range 4 {
		pool := []api.Insn{nop(), recv(), halt(), at(25), branch(), at(api.OpJump), at(api.OpJz, 0, 1)}
		for to := -1; to <= length; to++ {
			pool = append(pool, jump(to), jz(to), branch(to), branch(to, length-1))
		}
		wantAllCodes(t, n, length, pool)
	}
	n.wantMany(t, 50, api.OK, api.ErrJump, api.ErrDead, api.ErrSilent)
}

func TestAllCodesOfFourAndFive(t *testing.T) {
	n := tally{}
	for length := 4; length <= 5; length++ {
		pool := []api.Insn{nop(), recv(), halt()}
		for to := range length {
			pool = append(pool, jz(to))
			if length == 4 {
				pool = append(pool, jump(to), branch(to, 3))
			}
		}
		if length == 5 {
			pool = append(pool, jump(0), jump(2), branch(4))
		}
		wantAllCodes(t, n, length, pool)
	}
	n.wantMany(t, 1000, api.OK, api.ErrJump, api.ErrDead, api.ErrSilent)
}

// mixed is a code of n instructions, of which so many out of ten talk. Most that stand behind one that closes are a target of one ahead of it.
func mixed(r *tables.Row, n, loud int) []api.Insn {
	code := make([]api.Insn, n)
	for i := range code {
		switch kind := r.Below(20); {
		case kind == 0 || i == n-1:
			code[i] = []api.Insn{halt(), jump(r.Below(n)), branch(r.Below(n))}[r.Below(3)]
		case kind < 4:
			code[i] = jz(r.Below(n))
		case kind == 4:
			code[i] = branch(r.Below(n), r.Below(n), i+1)
		default:
			code[i] = at([]int{api.OpNop, api.OpPush, api.OpEq, api.OpClose, api.OpMove, api.OpNew}[r.Below(6)])
			if r.Below(10) < loud {
				code[i] = at(talking[r.Below(5)])
			}
		}
		if i > 0 && slices.Contains(closing, code[i-1].Op) {
			from := r.Below(i)
			if slices.Contains(aiming, code[from].Op) {
				code[from].L[0] = i
			} else if from < i-1 {
				code[from] = jz(i)
			}
		}
	}
	if r.Below(8) == 0 {
		i := r.Below(n)
		code[i] = []api.Insn{branch(), jump(-1), jz(n), at(api.OpJump, 0, 0), branch(0, n+5)}[r.Below(5)]
	}
	return code
}

func TestManyMixedCodes(t *testing.T) {
	row, n := tables.Row(10), tally{}
	for range 20000 {
		n.hold(t, mixed(&row, 1+row.Below(12), 3+row.Below(8)))
	}
	for range 3000 {
		n.hold(t, mixed(&row, 10+row.Below(30), 7+row.Below(4)))
	}
	for range 100 {
		n.hold(t, mixed(&row, 100+row.Below(30), 10))
	}
	n.wantMany(t, 500, api.OK, api.ErrJump, api.ErrDead, api.ErrSilent)
}

// P10.3

// wantWhatFollows asks for what follows of a code's flow.
func wantWhatFollows(t *testing.T, code []api.Insn) {
	t.Helper()
	f, _, e := blocks.Cut(code)
	if e != api.OK || len(f.Starts) == 0 || f.Starts[0] != 0 || len(f.Next) != len(f.Starts) {
		t.Fatalf("%v: %v, %d", code, f, e)
	}
	wantReached(t, f)
	wantTalk(t, code)
	wantWithin(t, code, f)
}

// wantReached asks that each block can be reached from the first one by going forward alone.
func wantReached(t *testing.T, f api.Flow) {
	t.Helper()
	isMet := make([]bool, len(f.Starts))
	isMet[0] = true
	for from := range f.Starts { // whoever goes forward to one is looked at ahead of it
		for _, to := range f.Next[from] {
			if isMet[from] && to > from {
				isMet[to] = true
			}
		}
	}
	if slices.Contains(isMet, false) {
		t.Errorf("%v: not reached: %v", f, isMet)
	}
}

// wantTalk asks that in each round one talks: those that do not can be taken away one by one, each when it goes to none that is left.
func wantTalk(t *testing.T, code []api.Insn) {
	t.Helper()
	isLeft := make([]bool, len(code))
	for i, x := range code {
		isLeft[i] = !blocks.Talks(x.Op)
	}
	for range code {
		for i := range code {
			toLeft := slices.ContainsFunc(blocks.Goes(code, i), func(to int) bool { return isLeft[to] })
			isLeft[i] = isLeft[i] && toLeft
		}
	}
	if slices.Contains(isLeft, true) {
		t.Errorf("%v: silent: %v", code, isLeft)
	}
}

// wantWithin asks that none but the last one of a block goes elsewhere than to the one behind it, and that none goes into the middle of a block.
func wantWithin(t *testing.T, code []api.Insn, f api.Flow) {
	t.Helper()
	for i := range code {
		goes := blocks.Goes(code, i)
		isLast := i == len(code)-1 || slices.Contains(f.Starts, i+1)
		if !isLast && !slices.Equal(goes, []int{i + 1}) {
			t.Errorf("%v: %d goes to %v, in the middle of a block", code, i, goes)
		}
		for _, to := range goes {
			if isLast && !slices.Contains(f.Starts, to) {
				t.Errorf("%v: %d goes to %d, where no block begins", code, i, to)
			}
		}
	}
}

func TestWhatFollowsOfKnownCodes(t *testing.T) {
	for _, code := range [][]api.Insn{
		{halt()},
		{nop(), recv(), jump(0)},
		{jz(2), halt(), halt()},
		{jz(3), nop(), halt(), recv(), branch(3, 0, 1, 5), halt()},
		{jz(2), halt(), jz(4), jump(5), recv(), branch(6, 7), nop(), halt()},
		append(rowOf(recv(), 127), branch(5, 100, 127)),
	} {
		wantWhatFollows(t, code)
	}
}

// What is answered hangs on nothing but the code: also many that ask at one time get the same.
func TestManyAskAtOneTime(t *testing.T) {
	code := []api.Insn{jz(3), nop(), halt(), recv(), branch(3, 0, 1, 5), halt()}
	want, _, _ := cutPlainly(code)
	done := make(chan bool)
	for range 16 {
		go func() {
			f, at, e := blocks.Cut(code)
			done <- e == api.OK && at == -1 && slices.Equal(f.Starts, want.Starts) && slices.EqualFunc(f.Next, want.Next, slices.Equal)
		}()
	}
	for range 16 {
		if !<-done {
			t.Error("another answer")
		}
	}
}
