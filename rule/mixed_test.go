package rule_test

import (
	"slices"
	"testing"

	"colloquy/api"
	"colloquy/class"
	"colloquy/codes"
	"colloquy/facts"
	"colloquy/insn"
	"colloquy/modules"
	"colloquy/rule"
	"colloquy/state"
	"colloquy/tables"
)

// What the chapter's words say, read plainly, of any facts, states and instructions

// row is a row of the chapter's table, of one instruction in one state.
type row struct {
	takes, lays int
	isSo        bool        // the condition
	behind      []api.State // with the Depth that was ahead
}

// isBusyAs tells whether a register is busy, and its class of a kind, and of words or of endpoints.
func isBusyAs(f api.Facts, x api.Slot, kind int, isChan bool) bool {
	return state.Busy(f, x) && f.Table.Classes[x.Class].Kind == kind && f.Table.Classes[x.Class].IsChan == isChan
}

// follows is a state in which a register has gone on by a Next.
func follows(f api.Facts, s api.State, register, next int) api.State {
	x := s.Regs[register]
	number, prio := class.Next(f.Table, x.Class, x.Prio, next)
	s.Regs[register], s.Level = holds(number, prio), x.Prio+1
	return s
}

// rowOfTalk is the row of an op that talks; the second answer tells whether the op is one.
func rowOfTalk(f api.Facts, s api.State, x api.Insn) (row, bool) {
	b := s.Regs[x.B]
	labels, pay := 0, none
	if state.Busy(f, b) {
		labels = len(f.Table.Classes[b.Class].Next)
		number, prio := class.Pay(f.Table, b.Class, b.Prio)
		pay = holds(number, prio)
	}
	switch x.Op {
	case api.OpSend:
		return row{1, 0, isBusyAs(f, b, api.Send, false), []api.State{follows(f, s, x.B, 0)}}, true
	case api.OpRecv:
		return row{0, 1, isBusyAs(f, b, api.Recv, false), []api.State{follows(f, s, x.B, 0)}}, true
	case api.OpGive:
		return row{0, 0, isBusyAs(f, b, api.Send, true) && s.Regs[x.C] == pay, []api.State{with(follows(f, s, x.B, 0), x.C, none)}}, true
	case api.OpTake:
		isSo := isBusyAs(f, b, api.Recv, true) && s.Regs[x.C].Kind >= api.None && s.Regs[x.C].Kind <= api.Word
		return row{0, 0, isSo, []api.State{with(follows(f, s, x.B, 0), x.C, pay)}}, true
	case api.OpSelect:
		isSo := isBusyAs(f, b, api.Select, false) || isBusyAs(f, b, api.Select, true)
		return row{0, 0, isSo && x.C < labels, []api.State{follows(f, s, x.B, x.C)}}, true
	case api.OpBranch:
		isSo := isBusyAs(f, b, api.Branch, false) || isBusyAs(f, b, api.Branch, true)
		var l []api.State
		for i := range x.L {
			l = append(l, follows(f, s, x.B, i))
		}
		return row{0, 0, isSo && len(x.L) == labels, l}, true
	}
	return row{}, false
}

// rowOf is the row of an instruction that may be, and that names what is there.
func rowOf(f api.Facts, s api.State, x api.Insn) row {
	if talk, is := rowOfTalk(f, s, x); is {
		return talk
	}
	isFree := func(register int) bool {
		return s.Regs[register].Kind == api.None || s.Regs[register].Kind == api.Word
	}
	switch x.Op {
	case api.OpPush:
		return row{0, 1, true, []api.State{s}}
	case api.OpPop, api.OpOut:
		return row{1, 0, true, []api.State{s}}
	case api.OpDup:
		return row{1, 2, true, []api.State{s}}
	case api.OpAdd, api.OpSub, api.OpMul, api.OpEq, api.OpLt:
		return row{2, 1, true, []api.State{s}}
	case api.OpJz:
		return row{1, 0, true, []api.State{s, s}}
	case api.OpGet:
		return row{0, 1, s.Regs[x.B].Kind == api.Word, []api.State{s}}
	case api.OpPut:
		return row{1, 0, isFree(x.B), []api.State{with(s, x.B, word)}}
	case api.OpNew:
		number, prio := class.Type(f.Table, api.Type{Node: x.B, Offset: s.Level + x.D})
		one, other := holds(number, prio), holds(number, prio)
		if number != -1 {
			other.Class = f.Table.Classes[number].Dual
		}
		return row{0, 0, isFree(x.L[0]) && isFree(x.L[1]), []api.State{with(with(s, x.L[0], one), x.L[1], other)}}
	case api.OpSpawn:
		return rowOfSpawn(f, s, x)
	case api.OpClose:
		return row{0, 0, s.Regs[x.B].Kind == api.Chan && !state.Busy(f, s.Regs[x.B]), []api.State{with(s, x.B, none)}}
	case api.OpMove:
		from := s.Regs[x.B]
		then := with(s, x.C, from)
		if from.Kind == api.Chan {
			then = with(then, x.B, none)
		}
		return row{0, 0, from.Kind != api.None && isFree(x.C), []api.State{then}}
	case api.OpHalt:
		return row{0, 0, true, nil}
	}
	return row{0, 0, true, []api.State{s}} // nop, jump
}

func rowOfSpawn(f api.Facts, s api.State, x api.Insn) row {
	isSo, then := true, s
	for i, param := range f.Params[x.B] {
		held := s.Regs[x.L[i]]
		if param.Kind == api.Word {
			isSo = isSo && held.Kind == api.Word
		}
		if param.Kind == api.Chan {
			isSo = isSo && held.Kind == api.Chan && held.Class == param.Class
		}
		if held.Kind == api.Chan {
			then.Regs[x.L[i]] = none
		}
	}
	return row{0, 0, isSo, []api.State{then}}
}

// isInOrder tells whether priorities are as a talk, or a spawn, asks for.
func isInOrder(f api.Facts, s api.State, x api.Insn) bool {
	var above []int // by how much a spawn's registers are above its parameters
	for register, held := range s.Regs {
		if !state.Busy(f, held) {
			continue
		}
		if insn.Comm(x.Op) && register != x.B && !(held.Prio > s.Regs[x.B].Prio) {
			return false
		}
		for i, named := range x.L {
			if x.Op == api.OpSpawn && named == register {
				above = append(above, held.Prio-f.Params[x.B][i].Prio)
			}
		}
	}
	return len(above) == 0 || slices.Min(above) == slices.Max(above) && above[0] >= s.Level
}

func stepPlainly(f api.Facts, s api.State, x api.Insn) ([]api.State, api.Errno) {
	if e := insn.Check(x); e != api.OK {
		return nil, e
	}
	if x.Op == api.OpNew && 2*x.B+2 > len(f.Table.Of) {
		return nil, api.ErrArg
	}
	if x.Op == api.OpSpawn && (x.B+1 > len(f.Params) || len(f.Params[x.B]) != len(x.L)) {
		return nil, api.ErrArg
	}
	r := rowOf(f, s, x)
	isEndpoint := func(x api.Slot) bool { return x.Kind == api.Chan }
	switch {
	case s.Depth < r.takes || s.Depth-r.takes+r.lays > 16:
		return nil, api.ErrStack
	case !r.isSo:
		return nil, api.ErrType
	case !isInOrder(f, s, x):
		return nil, api.ErrPrio
	case x.Op == api.OpHalt && slices.ContainsFunc(s.Regs[:], isEndpoint):
		return nil, api.ErrHeld
	}
	for i := range r.behind {
		r.behind[i].Depth += r.lays - r.takes
	}
	return r.behind, api.OK
}

// wantAsTold holds a step against the plain reading, and answers its states and error.
func wantAsTold(t *testing.T, what string, f api.Facts, s api.State, x api.Insn) ([]api.State, api.Errno) {
	t.Helper()
	want, e := stepPlainly(f, s, x)
	wantStep(t, what, f, s, x, want, e)
	if t.Failed() {
		t.Fatalf("by the facts %v", f)
	}
	return want, e
}

// Facts, states and instructions that go together

// mixedFacts are the facts of a module of all sorts.
func mixedFacts(t *testing.T, r *tables.Row) api.Facts {
	t.Helper()
	m := modules.Asking(r)
	f, e := state.Facts(m)
	if e != api.OK {
		t.Fatalf("%v: %d", m, e)
	}
	return f
}

// classesOf are the classes of a kind, and of words or of endpoints.
func classesOf(f api.Facts, kind int, isChan bool) []int {
	var l []int
	for number, c := range f.Table.Classes {
		if c.Kind == kind && c.IsChan == isChan {
			l = append(l, number)
		}
	}
	return l
}

// endpointOf is a Chan of such a class, if there is one, at a priority from 10 on, below 10 and 11.
func endpointOf(r *tables.Row, f api.Facts, kind int, isChan bool) api.Slot {
	l := classesOf(f, kind, isChan)
	if len(l) == 0 {
		return none
	}
	return holds(l[r.Below(len(l))], 10+r.Below(11))
}

// free is nothing, or a word.
func free(r *tables.Row) api.Slot { return []api.Slot{none, word}[r.Below(2)] }

// fitted is an instruction, and a state that holds what it asks for, if there is such a thing; others in it are at priorities from 20 on.
func fitted(r *tables.Row, f api.Facts) (api.State, api.Insn) {
	s, x := facts.State(r, f, 20), codes.Mixed(r)
	switch x.Op {
	case api.OpGet:
		s.Regs[x.B] = word
	case api.OpPut:
		s.Regs[x.B] = free(r)
	case api.OpSend, api.OpRecv, api.OpGive, api.OpTake, api.OpSelect, api.OpBranch:
		fitTalk(r, f, &s, &x)
	case api.OpNew:
		x.B = r.Below(max(1, len(f.Table.Of)/2))
		s.Regs[x.L[0]], s.Regs[x.L[1]] = free(r), free(r)
	case api.OpSpawn:
		if len(f.Params) > 0 {
			fitSpawn(r, f, &s, &x)
		}
	case api.OpClose:
		for _, number := range classesOf(f, api.End, false) {
			s.Regs[x.B] = holds(number, 0)
		}
	case api.OpMove:
		if s.Regs[x.C] = free(r); s.Regs[x.B] == none {
			s.Regs[x.B] = word
		}
	case api.OpHalt:
		held := s.Regs[0]
		for i := range s.Regs {
			s.Regs[i] = free(r)
		}
		if r.Below(4) == 0 {
			s.Regs[r.Below(api.MaxRegs)] = held
		}
	}
	return s, x
}

func fitTalk(r *tables.Row, f api.Facts, s *api.State, x *api.Insn) {
	kind := map[int]int{api.OpSend: api.Send, api.OpRecv: api.Recv, api.OpGive: api.Send, api.OpTake: api.Recv, api.OpSelect: api.Select, api.OpBranch: api.Branch}[x.Op]
	b := endpointOf(r, f, kind, x.Op == api.OpGive || x.Op == api.OpTake)
	s.Regs[x.B] = b
	if b == none {
		return
	}
	labels := len(f.Table.Classes[b.Class].Next)
	switch x.Op {
	case api.OpGive:
		s.Regs[x.C] = holds(class.Pay(f.Table, b.Class, b.Prio))
	case api.OpTake:
		s.Regs[x.C] = free(r)
	case api.OpSelect:
		x.C = r.Below(max(1, labels))
	case api.OpBranch:
		x.L = upTo(5, labels)
	}
}

func fitSpawn(r *tables.Row, f api.Facts, s *api.State, x *api.Insn) {
	x.B = r.Below(len(f.Params))
	params := f.Params[x.B]
	by, first := s.Level+r.Below(3)-r.Below(2), r.Below(9)
	x.L = upTo(first, min(8, len(params)))
	slices.Reverse(x.L)
	for i, register := range x.L {
		s.Regs[register] = params[i]
		if state.Busy(f, params[i]) {
			s.Regs[register].Prio += by
		}
	}
}

// spoil makes something of a state, or of an instruction, another thing.
func spoil(r *tables.Row, f api.Facts, s *api.State, x *api.Insn) {
	register := &s.Regs[r.Below(api.MaxRegs)]
	switch r.Below(8) {
	case 0:
		s.Depth = []int{-1, 0, 1, 15, 16, 17}[r.Below(6)]
	case 1:
		s.Level += r.Below(7) - 3
	case 2:
		*register = facts.Slot(r, f, 8)
	case 3:
		register.Prio += r.Below(5) - 2
	case 4:
		register.Class = r.Below(len(f.Table.Classes) + 1)
	case 5:
		x.B = r.Below(api.MaxRegs)
	case 6:
		x.C = r.Below(api.MaxLabels)
	case 7:
		*register = free(r)
	}
}

// P14.1

func TestMixedStates(t *testing.T) {
	r := tables.Row(142)
	var oks, others [api.LastOp + 1]int
	met := map[api.Errno]int{}
	for range 30000 {
		f := mixedFacts(t, &r)
		s, x := fitted(&r, f)
		for range []int{0, 0, 1, 3}[r.Below(4)] {
			spoil(&r, f, &s, &x)
		}
		_, e := wantAsTold(t, "a mixed state", f, s, x)
		met[e]++
		if e == api.OK {
			oks[x.Op]++
		} else {
			others[x.Op]++
		}
	}
	if slices.Min(oks[:]) < 100 || slices.Min(others[:]) < 20 {
		t.Errorf("by their ops, %v are done, and %v are not", oks, others)
	}
	for _, code := range []api.Errno{api.OK, api.ErrArg, api.ErrStack, api.ErrType, api.ErrPrio, api.ErrHeld} {
		if met[code] < 100 {
			t.Errorf("%d is met just so often: %d", code, met[code])
		}
	}
}

// Whatever stands in facts, states and instructions, something is told.
func TestWildFactsAndStates(t *testing.T) {
	r := tables.Row(143)
	met := map[api.Errno]int{}
	for range 30000 {
		f := facts.Wild(&r)
		s, x := fitted(&r, f)
		if r.Below(4) == 0 {
			x = codes.Wild(&r)
		}
		if r.Below(4) == 0 {
			s = facts.WildState(&r)
		}
		_, e := wantAsTold(t, "a wild state", f, s, x)
		met[e]++
	}
	for _, code := range []api.Errno{api.OK, api.ErrArg, api.ErrOp, api.ErrStack, api.ErrType, api.ErrPrio, api.ErrHeld} {
		if met[code] < 30 {
			t.Errorf("%d is met just so often: %d", code, met[code])
		}
	}
}

// Lists of any length may stand in facts and instructions.
func TestLongLists(t *testing.T) {
	f := talkFacts(make([]api.Slot, 1<<17), slices.Repeat([]api.Slot{word}, 9))
	for _, n := range []int{0, 8, 9, 1 << 17} {
		for template := range 3 {
			wantAsTold(t, "a long spawn", f, among(), api.Insn{Op: api.OpSpawn, B: template, L: upTo(0, n)})
		}
		wantAsTold(t, "a long branch", f, among(), api.Insn{Op: api.OpBranch, B: 8, L: make([]int, n)})
	}
	f.Table.Of = make([]int, 1<<17)
	f.Table.Prio = make([]int, 1<<17)
	wantStates(t, "many nodes", f, knows(3, 0), api.Insn{Op: api.OpNew, B: 63, L: []int{1, 0}}, knows(3, 0, holds(receives, 3), holds(sends, 3)))
}

// P14.2

// named are the registers that an instruction names.
func named(x api.Insn) []int {
	switch x.Op {
	case api.OpGet, api.OpPut, api.OpSend, api.OpRecv, api.OpSelect, api.OpBranch, api.OpClose:
		return []int{x.B}
	case api.OpGive, api.OpTake, api.OpMove:
		return []int{x.B, x.C}
	case api.OpNew, api.OpSpawn:
		return x.L
	}
	return nil
}

// isAboveLevel tells whether each busy register's priority is at least the Level.
func isAboveLevel(f api.Facts, s api.State) bool {
	for _, x := range s.Regs {
		if state.Busy(f, x) && x.Prio < s.Level {
			return false
		}
	}
	return true
}

func TestWhatStays(t *testing.T) {
	r := tables.Row(144)
	var met [api.LastOp + 1]int
	raised := 0
	for range 20000 {
		f := mixedFacts(t, &r)
		s, x := fitted(&r, f)
		if least, isThere := state.Least(f, s); isThere && least < s.Level {
			s.Level = least - r.Below(4)
		}
		if !isAboveLevel(f, s) {
			t.Fatalf("%v is below its Level", s)
		}
		states, e := rule.Step(f, s, x)
		if e == api.OK {
			met[x.Op]++
		}
		for _, then := range states {
			if !isAboveLevel(f, then) || then.Level < s.Level || insn.Comm(x.Op) && then.Level == s.Level {
				t.Fatalf("%v of %v: %v", x, s, then)
			}
			if insn.Comm(x.Op) {
				raised++
			}
			for register := range s.Regs {
				if !slices.Contains(named(x), register) && then.Regs[register] != s.Regs[register] {
					t.Fatalf("%v of %v: the register %d changes: %v", x, s, register, then)
				}
			}
			if high := state.Raise(f, then); high.Level < then.Level || !isAboveLevel(f, high) {
				t.Fatalf("%v of %v, raised: %v", x, s, high)
			}
		}
	}
	if slices.Min(met[:]) < 50 || raised < 2000 {
		t.Errorf("by their ops so many are done: %v; the Level rises %d times", met, raised)
	}
}

// areMates tells whether two registers are of classes that are dual, with one priority.
func areMates(f api.Facts, a, b api.Slot) bool {
	classes := f.Table.Classes
	return a.Kind == api.Chan && b.Kind == api.Chan && classes[a.Class].Dual == b.Class && classes[b.Class].Dual == a.Class && a.Prio == b.Prio
}

// talksAt are the states behind all talks of an actor with one endpoint in its register 0, over that: of each label one.
func talksAt(t *testing.T, f api.Facts, x api.Slot) []api.State {
	t.Helper()
	one, s := f.Table.Classes[x.Class], knows(0, 1, x)
	var all []api.Insn
	switch {
	case one.Kind == api.Send && one.IsChan:
		s.Regs[1] = holds(class.Pay(f.Table, x.Class, x.Prio))
		all = []api.Insn{{Op: api.OpGive, C: 1}}
	case one.Kind == api.Recv && one.IsChan:
		all = []api.Insn{{Op: api.OpTake, C: 1}}
	case one.Kind == api.Send:
		all = []api.Insn{{Op: api.OpSend}}
	case one.Kind == api.Recv:
		all = []api.Insn{{Op: api.OpRecv}}
	case one.Kind == api.Select:
		for label := range one.Next {
			all = append(all, api.Insn{Op: api.OpSelect, C: label})
		}
	case one.Kind == api.Branch:
		all = []api.Insn{{Op: api.OpBranch, L: make([]int, len(one.Next))}}
	}
	var l []api.State
	for _, x := range all {
		states, e := rule.Step(f, s, x)
		if e != api.OK || len(states) == 0 {
			t.Fatalf("%v of %v: %v, %d, by the facts %v", x, s, states, e, f)
		}
		l = append(l, states...)
	}
	return l
}

// Both go on at classes that are dual, with one priority, and what one gives is what the other one takes.
func TestDualsGoOnAtDuals(t *testing.T) {
	r := tables.Row(145)
	kinds, busy, labels := [api.LastKind]int{}, 0, 0
	for range 2000 {
		f := mixedFacts(t, &r)
		for number, one := range f.Table.Classes {
			if one.Kind == api.End {
				continue
			}
			prio := r.Below(50)
			here, there := talksAt(t, f, holds(number, prio)), talksAt(t, f, holds(one.Dual, prio))
			if len(here) != len(one.Next) || len(there) != len(here) {
				t.Fatalf("the class %d goes on %d times, its dual %d times: %v", number, len(here), len(there), f)
			}
			for i := range here {
				if !areMates(f, here[i].Regs[0], there[i].Regs[0]) || here[i].Level != there[i].Level {
					t.Errorf("the class %d goes on at %v, its dual at %v: %v", number, here[i], there[i], f)
				}
				if state.Busy(f, here[i].Regs[0]) {
					busy++
				}
			}
			gives, takes := here[0].Regs[1], there[0].Regs[1]
			if one.Kind == api.Recv {
				gives, takes = takes, gives
			}
			if one.IsChan && (gives != none || takes != holds(class.Pay(f.Table, number, prio))) {
				t.Errorf("%v is left, and %v is taken, at the class %d: %v", gives, takes, number, f)
			}
			kinds[one.Kind]++
			labels = max(labels, len(here))
		}
	}
	if slices.Min(kinds[1:]) < 500 || busy < 2000 || labels < 8 {
		t.Errorf("by their kinds: %v; %d go on; %d labels at most", kinds, busy, labels)
	}
}

// The two ends of a new channel are of classes that are dual, with one priority, which is not below the Level.
func TestNewEndsAreMates(t *testing.T) {
	r := tables.Row(146)
	for range 3000 {
		f := mixedFacts(t, &r)
		s := knows(r.Below(100), 0)
		x := api.Insn{Op: api.OpNew, B: r.Below(len(f.Table.Of) / 2), D: r.Below(1001), L: []int{8, 2}}
		states, e := rule.Step(f, s, x)
		if e != api.OK || len(states) != 1 || !areMates(f, states[0].Regs[8], states[0].Regs[2]) {
			t.Fatalf("%v of %v: %v, %d", x, s, states, e)
		}
		one := states[0].Regs[8]
		if want := f.Table.Of[x.B]; one.Class != want || state.Busy(f, one) && one.Prio != f.Table.Prio[x.B]+s.Level+x.D {
			t.Errorf("%v of %v: %v", x, s, one)
		}
	}
}

// A talk of a state that is further by t is what it is without that, further by t.
func TestStepsOfStatesThatAreFurther(t *testing.T) {
	r, met := tables.Row(147), 0
	for range 10000 {
		f := mixedFacts(t, &r)
		s, x := fitted(&r, f)
		by := r.Below(100)
		above := s
		above.Level += by
		for i, held := range s.Regs {
			if state.Busy(f, held) {
				above.Regs[i].Prio += by
			}
		}
		states, e := rule.Step(f, s, x)
		others, eAbove := rule.Step(f, above, x)
		if e != eAbove || len(states) != len(others) {
			t.Fatalf("%v of %v: %d, and further by %d: %d", x, s, e, by, eAbove)
		}
		for i := range states {
			if far, is := state.Shift(f, states[i], others[i]); !is || far != by {
				t.Fatalf("%v of %v: %v, and further by %d: %v", x, s, states[i], by, others[i])
			}
			met++
		}
	}
	if met < 5000 {
		t.Errorf("just %d states are further", met)
	}
}
