package rule_test

import (
	"math"
	"slices"
	"sync"
	"testing"

	"colloquy/api"
	"colloquy/class"
	"colloquy/codes"
	"colloquy/facts"
	"colloquy/insn"
	"colloquy/lists"
	"colloquy/rule"
	"colloquy/tables"
)

// How tables of types, slots and states are laid.
var (
	far, of, ofEnd = tables.Far, tables.Of, tables.OfEnd
	none, word     = api.Slot{}, facts.Word()
	holds, knows   = facts.Holds, facts.Knows
	oddNumbers     = tables.OddNumbers
)

// talk are six nodes, and behind them in a table are their duals.
func talk() []api.Node {
	return []api.Node{
		of(api.Send, 7, far(0, 2)),
		{},
		ofEnd(api.Send, 10, far(0, 7), far(2, 3)),
		ofEnd(api.Send, 5, far(1, 0), far(1, 0)),
		of(api.Select, 20, far(1, 0), far(0, 14), far(4, 5)),
		tables.Alias(0, 3),
	}
}

// The classes of talk.
const (
	sends       = 0
	ended       = 1
	handsOver   = 2
	handsEnd    = 3
	chooses     = 4
	receives    = 5
	isHanded    = 6
	isHandedEnd = 7
	offers      = 8
	noClass     = 9
)

// talkTable is the table of talk.
func talkTable() api.Table {
	link := func(class, jump int) api.Link { return api.Link{Class: class, Jump: jump} }
	return api.Table{
		Classes: []api.Class{
			{Kind: api.Send, Dual: receives, Next: []api.Link{link(sends, 2)}},
			{Kind: api.End, Dual: ended},
			{Kind: api.Send, Dual: isHanded, IsChan: true, Pay: link(sends, 4), Next: []api.Link{link(handsOver, 3)}},
			{Kind: api.Send, Dual: isHandedEnd, IsChan: true, Pay: link(ended, 0), Next: []api.Link{link(ended, 0)}},
			{Kind: api.Select, Dual: offers, Next: []api.Link{link(ended, 0), link(sends, 1), link(chooses, 5)}},
			{Kind: api.Recv, Dual: sends, Next: []api.Link{link(receives, 2)}},
			{Kind: api.Recv, Dual: handsOver, IsChan: true, Pay: link(sends, 4), Next: []api.Link{link(isHanded, 3)}},
			{Kind: api.Recv, Dual: handsEnd, IsChan: true, Pay: link(ended, 0), Next: []api.Link{link(ended, 0)}},
			{Kind: api.Branch, Dual: chooses, Next: []api.Link{link(ended, 0), link(receives, 1), link(offers, 5)}},
		},
		Of:   []int{sends, ended, handsOver, handsEnd, chooses, sends, receives, ended, isHanded, isHandedEnd, offers, receives},
		Prio: []int{7, 0, 10, 5, 20, 10, 7, 0, 10, 5, 20, 10},
	}
}

// talkFacts are the facts of talk, and of templates with these slots each.
func talkFacts(params ...[]api.Slot) api.Facts {
	return api.Facts{Table: talkTable(), Params: params}
}

// among is a state in which things of all sorts are in the registers; the least priority is 20.
func among() api.State {
	return knows(9, 5,
		word, none, holds(ended, 0), holds(sends, 20), holds(receives, 21), word, none, holds(handsOver, 22),
		holds(offers, 23), holds(ended, 0), none, word, holds(isHanded, 24), holds(chooses, 25), holds(handsEnd, 26), holds(isHandedEnd, 27))
}

// with is a state of which one register holds something else.
func with(s api.State, register int, x api.Slot) api.State {
	s.Regs[register] = x
	return s
}

// deep is a state of another Depth.
func deep(s api.State, depth int) api.State {
	s.Depth = depth
	return s
}

// high is a state of another Level.
func high(s api.State, level int) api.State {
	s.Level = level
	return s
}

// slots are what a register may hold, of all sorts; what is busy is at the priority 10.
func slots() []api.Slot {
	l := []api.Slot{none, word, holds(-1, 10), holds(noClass, 10), holds(math.MaxInt, 10), holds(math.MinInt, 10), {Kind: -1}, {Kind: api.Chan + 1}}
	for number, c := range talkTable().Classes {
		x := holds(number, 10)
		if c.Kind == api.End {
			x.Prio = 0
		}
		l = append(l, x)
	}
	return l
}

// wantStep asks for the states behind an instruction, and an error, again also where the first answer was changed, and that what is handed in stays as it was.
func wantStep(t *testing.T, what string, f api.Facts, s api.State, x api.Insn, want []api.State, code api.Errno) {
	t.Helper()
	givenFacts, givenInsn := facts.Roomy(f), codes.Deep(x)
	for range 2 {
		got, e := rule.Step(givenFacts, s, givenInsn)
		if e != code || !slices.Equal(got, want) {
			t.Errorf("%s: %v of %v: %v, %d, but %v, %d is asked for", what, x, s, got, e, want, code)
		}
		for i := range got {
			got[i] = knows(-9, -9)
		}
		_ = append(got, knows(-8, -8))
	}
	if !facts.Same(givenFacts, f) || !facts.IsRoomEmpty(givenFacts) || !codes.Same(givenInsn, x) || !lists.IsRoomZero(givenInsn.L) {
		t.Errorf("%s: %v: what was handed in is changed", what, x)
	}
}

func wantStates(t *testing.T, what string, f api.Facts, s api.State, x api.Insn, want ...api.State) {
	t.Helper()
	wantStep(t, what, f, s, x, want, api.OK)
}

func wantError(t *testing.T, what string, f api.Facts, s api.State, x api.Insn, code api.Errno) {
	t.Helper()
	wantStep(t, what, f, s, x, nil, code)
}

// wantIf asks for one state, if something holds, and else for an error.
func wantIf(t *testing.T, holds bool, what string, f api.Facts, s api.State, x api.Insn, want api.State, code api.Errno) {
	t.Helper()
	if holds {
		wantStates(t, what, f, s, x, want)
		return
	}
	wantError(t, what, f, s, x, code)
}

// The chapter's examples

func TestExamples(t *testing.T) {
	f := talkFacts()
	send := api.Insn{Op: api.OpSend}
	s := knows(3, 1, holds(sends, 7), holds(offers, 8))
	wantStates(t, "busy at 8", f, s, send, knows(8, 0, holds(sends, 9), holds(offers, 8)))
	wantError(t, "busy at 7", f, with(s, 1, holds(offers, 7)), send, api.ErrPrio)
	wantError(t, "no operand", f, deep(with(s, 1, holds(offers, 7)), 0), send, api.ErrStack)
	wantError(t, "no operand", f, deep(s, 0), send, api.ErrStack)
	two, e := class.Of([]api.Node{of(api.Send, 2, far(1, 0)), {}})
	if e != api.OK || two.Classes[0].Dual != 2 {
		t.Fatalf("%v, %d", two, e)
	}
	wantStates(t, "nothing held", api.Facts{Table: two}, knows(5, 0), api.Insn{Op: api.OpNew, D: 3, L: []int{0, 1}}, knows(5, 0, holds(0, 10), holds(2, 10)))
	wantError(t, "a Chan is held", f, knows(0, 0, none, none, none, holds(ended, 0)), api.Insn{Op: api.OpHalt}, api.ErrHeld)
}

func TestTheClassesOfTalk(t *testing.T) {
	if table, e := class.Of(talk()); e != api.OK || !facts.SameTable(table, talkTable()) {
		t.Errorf("%v, %d, but %v is asked for", table, e, talkTable())
	}
}

// done is an instruction that may be done, in a state, and what is behind it.
type done struct {
	x           api.Insn
	s           api.State
	takes, lays int
	behind      []api.State
}

// at is a register, and what is in it.
type at struct {
	register int
	slot     api.Slot
}

// behind is a state, at another Level and Depth, and in registers with something else.
func behind(s api.State, level, depth int, all ...at) api.State {
	s.Level, s.Depth = level, depth
	for _, one := range all {
		s.Regs[one.register] = one.slot
	}
	return s
}

// knownFacts are the facts by which each instruction of known may be done.
func knownFacts() api.Facts {
	return talkFacts(nil, []api.Slot{word, holds(sends, 3), holds(ended, 0), holds(receives, 4)})
}

// known is an instruction of each op, in the order of the ops, with the Depth 5 ahead.
func known() []done {
	s := among()
	speaks := func(number int) api.State { return with(s, 4, holds(number, 10)) } // over the register 4
	one := func(x api.Insn, s api.State, takes, lays int, then ...api.State) done {
		return done{x, s, takes, lays, then}
	}
	return []done{
		one(api.Insn{Op: api.OpNop}, s, 0, 0, s),
		one(api.Insn{Op: api.OpPush, A: -5}, s, 0, 1, deep(s, 6)),
		one(api.Insn{Op: api.OpPop}, s, 1, 0, deep(s, 4)),
		one(api.Insn{Op: api.OpDup}, s, 1, 2, deep(s, 6)),
		one(api.Insn{Op: api.OpAdd}, s, 2, 1, deep(s, 4)),
		one(api.Insn{Op: api.OpSub}, s, 2, 1, deep(s, 4)),
		one(api.Insn{Op: api.OpMul}, s, 2, 1, deep(s, 4)),
		one(api.Insn{Op: api.OpEq}, s, 2, 1, deep(s, 4)),
		one(api.Insn{Op: api.OpLt}, s, 2, 1, deep(s, 4)),
		one(api.Insn{Op: api.OpGet, B: 5}, s, 0, 1, deep(s, 6)),
		one(api.Insn{Op: api.OpPut, B: 6}, s, 1, 0, behind(s, 9, 4, at{6, word})),
		one(api.Insn{Op: api.OpJump, L: []int{7}}, s, 0, 0, s),
		one(api.Insn{Op: api.OpJz, L: []int{7}}, s, 1, 0, deep(s, 4), deep(s, 4)),
		one(api.Insn{Op: api.OpOut}, s, 1, 0, deep(s, 4)),
		one(api.Insn{Op: api.OpSend, B: 4}, speaks(sends), 1, 0, behind(s, 11, 4, at{4, holds(sends, 12)})),
		one(api.Insn{Op: api.OpRecv, B: 4}, speaks(receives), 0, 1, behind(s, 11, 6, at{4, holds(receives, 12)})),
		one(api.Insn{Op: api.OpGive, B: 4, C: 3}, with(speaks(handsOver), 3, holds(sends, 14)), 0, 0, behind(s, 11, 5, at{4, holds(handsOver, 13)}, at{3, none})),
		one(api.Insn{Op: api.OpTake, B: 4, C: 6}, speaks(isHanded), 0, 0, behind(s, 11, 5, at{4, holds(isHanded, 13)}, at{6, holds(sends, 14)})),
		one(api.Insn{Op: api.OpSelect, B: 4, C: 2}, speaks(chooses), 0, 0, behind(s, 11, 5, at{4, holds(chooses, 15)})),
		one(api.Insn{Op: api.OpBranch, B: 4, L: []int{9, 3, 9}}, speaks(offers), 0, 0,
			behind(s, 11, 5, at{4, holds(ended, 0)}), behind(s, 11, 5, at{4, holds(receives, 11)}), behind(s, 11, 5, at{4, holds(offers, 15)})),
		one(api.Insn{Op: api.OpNew, B: 4, D: 30, L: []int{6, 0}}, s, 0, 0, behind(s, 9, 5, at{6, holds(chooses, 59)}, at{0, holds(offers, 59)})),
		one(api.Insn{Op: api.OpSpawn, B: 1, L: []int{5, 3, 9, 4}}, s, 0, 0, behind(s, 9, 5, at{3, none}, at{9, none}, at{4, none})),
		one(api.Insn{Op: api.OpClose, B: 9}, s, 0, 0, behind(s, 9, 5, at{9, none})),
		one(api.Insn{Op: api.OpMove, B: 8, C: 11}, s, 0, 0, behind(s, 9, 5, at{8, none}, at{11, holds(offers, 23)})),
		one(api.Insn{Op: api.OpHalt}, knows(9, 5, word, none, word), 0, 0),
	}
}

func TestAnInstructionOfEachOp(t *testing.T) {
	for op, k := range known() {
		if k.x.Op != op {
			t.Fatalf("the op %d stands at %d", k.x.Op, op)
		}
		wantStates(t, "an instruction of each op", knownFacts(), k.s, k.x, k.behind...)
	}
	if len(known()) != api.LastOp+1 {
		t.Errorf("%d instructions are known", len(known()))
	}
}

// Errors of insn.Check

// spoilt are what may not be of an instruction that may.
func spoilt(x api.Insn) []api.Insn {
	var l []api.Insn
	add := func(change func(x *api.Insn)) {
		y := codes.Deep(x)
		if change(&y); insn.Check(y) != api.OK {
			l = append(l, y)
		}
	}
	for _, n := range append(oddNumbers(), 1, 7, 8, 15, 16, 63, 64, 127, 128, 1001, api.LastOp+1) {
		add(func(x *api.Insn) { x.Op = n })
		add(func(x *api.Insn) { x.A = int64(n) })
		add(func(x *api.Insn) { x.B = n })
		add(func(x *api.Insn) { x.C = n })
		add(func(x *api.Insn) { x.D = n })
		add(func(x *api.Insn) { x.L = append(x.L, n) })
		for i := range x.L {
			add(func(x *api.Insn) { x.L[i] = n })
			add(func(x *api.Insn) { x.L = x.L[:i] })
		}
	}
	add(func(x *api.Insn) { x.C = x.B })
	add(func(x *api.Insn) { x.L = append(x.L, x.L...) })
	add(func(x *api.Insn) { x.L = make([]int, 9) })
	add(func(x *api.Insn) { x.L = make([]int, 1<<16) })
	return l
}

// What insn.Check tells comes ahead of all else that is wrong.
func TestErrorsOfInstructions(t *testing.T) {
	met := map[api.Errno]int{}
	for _, k := range known() {
		for _, x := range spoilt(k.x) {
			e := insn.Check(x)
			met[e]++
			wantError(t, "what may not be", knownFacts(), k.s, x, e)
			wantError(t, "what may not be, of a state without anything", knownFacts(), knows(0, -1), x, e)
			wantError(t, "what may not be, of a state in which all is held", knownFacts(), knows(50, 17, slots()...), x, e)
			wantError(t, "what may not be, by facts of nothing", api.Facts{}, deep(k.s, 17), x, e)
		}
	}
	if len(met) != 2 || met[api.ErrOp] < 100 || met[api.ErrArg] < 500 {
		t.Errorf("by what is wrong: %v", met)
	}
}

// Where insn.Check answers OK, Step does not answer ErrOp, and ErrArg just of a new and a spawn.
func TestErrorsAreNoOthers(t *testing.T) {
	row := tables.Row(141)
	for range 5000 {
		x := codes.Mixed(&row)
		_, e := rule.Step(knownFacts(), facts.State(&row, knownFacts(), 9), x)
		switch e {
		case api.OK, api.ErrStack, api.ErrType, api.ErrPrio, api.ErrHeld:
		case api.ErrArg:
			if x.Op != api.OpNew && x.Op != api.OpSpawn {
				t.Errorf("%v: %d", x, e)
			}
		default:
			t.Errorf("%v: %d", x, e)
		}
	}
}

// ErrArg

func TestNodesOfNew(t *testing.T) {
	s := knows(4, 0)
	for n := 1; n <= api.MaxNodes; n++ {
		table, e := class.Of(slices.Repeat([]api.Node{of(api.Send, 3, far(0, 1))}, n))
		if e != api.OK || len(table.Of) != 2*n {
			t.Fatalf("%v, %d", table, e)
		}
		f := api.Facts{Table: table}
		for node := range api.MaxNodes + 1 {
			x := api.Insn{Op: api.OpNew, B: node, D: 5, L: []int{0, 1}}
			wantIf(t, node < n, "a node", f, s, x, knows(4, 0, holds(0, 12), holds(1, 12)), api.ErrArg)
		}
	}
	for _, node := range append(oddNumbers(), 64) {
		wantError(t, "no node", talkFacts(), s, api.Insn{Op: api.OpNew, B: node, L: []int{0, 1}}, api.ErrArg)
	}
	wantError(t, "no nodes at all", api.Facts{}, s, api.Insn{Op: api.OpNew, L: []int{0, 1}}, api.ErrArg)
}

// Each node, and behind them each dual, which is no node.
func TestNewOfEachNode(t *testing.T) {
	s := knows(4, 0)
	pairs := [][2]api.Slot{
		{holds(sends, 11), holds(receives, 11)},
		{holds(ended, 0), holds(ended, 0)},
		{holds(handsOver, 14), holds(isHanded, 14)},
		{holds(handsEnd, 9), holds(isHandedEnd, 9)},
		{holds(chooses, 24), holds(offers, 24)},
		{holds(sends, 14), holds(receives, 14)},
	}
	for node, pair := range pairs {
		wantStates(t, "a node", talkFacts(), s, api.Insn{Op: api.OpNew, B: node, L: []int{0, 1}}, knows(4, 0, pair[0], pair[1]))
	}
	for node := 6; node < 14; node++ {
		wantError(t, "a dual", talkFacts(), s, api.Insn{Op: api.OpNew, B: node, L: []int{0, 1}}, api.ErrArg)
	}
}

// upTo are the numbers from first on, so many.
func upTo(first, count int) []int {
	var l []int
	for i := range count {
		l = append(l, first+i)
	}
	return l
}

func TestTemplatesOfSpawn(t *testing.T) {
	for n := range api.MaxTemplates + 1 {
		f := talkFacts(make([][]api.Slot, n)...)
		for template := range api.MaxTemplates + 1 {
			x := api.Insn{Op: api.OpSpawn, B: template}
			wantIf(t, template < n, "a template", f, among(), x, among(), api.ErrArg)
		}
		for _, template := range oddNumbers() {
			wantError(t, "no template", f, among(), api.Insn{Op: api.OpSpawn, B: template}, api.ErrArg)
		}
	}
}

func TestHowManyRegistersOfASpawn(t *testing.T) {
	s := knows(0, 0, slices.Repeat([]api.Slot{word}, 16)...)
	for n := range 10 {
		f := talkFacts(nil, slices.Repeat([]api.Slot{word}, n), nil)
		for count := range 10 {
			x := api.Insn{Op: api.OpSpawn, B: 1, L: upTo(3, count)}
			wantIf(t, count == n && n <= 8, "words", f, s, x, s, api.ErrArg)
		}
	}
}

// ErrStack

// Of each op, each Depth; nothing else of the state counts for it.
func TestDepths(t *testing.T) {
	for _, k := range known() {
		for depth := -2; depth <= 19; depth++ {
			s := deep(k.s, depth)
			if depth < k.takes || depth-k.takes+k.lays > 16 {
				wantError(t, "a Depth", knownFacts(), s, k.x, api.ErrStack)
				wantError(t, "a Depth, of a state without anything", knownFacts(), knows(0, depth), k.x, api.ErrStack)
				continue
			}
			want := slices.Clone(k.behind)
			for i := range want {
				want[i].Depth += depth - 5
			}
			wantStates(t, "a Depth", knownFacts(), s, k.x, want...)
		}
		for _, depth := range []int{math.MinInt, math.MinInt + 1, 18, 1 << 32, -1 << 32, math.MaxInt - 2} {
			wantError(t, "an odd Depth", knownFacts(), deep(k.s, depth), k.x, api.ErrStack)
		}
	}
}

// ErrType, of what one register must hold

// speech is a talk over one register at the priority 10, and what it holds behind it.
type speech struct {
	x     api.Insn
	class int
	then  api.Slot
	depth int // behind it, from 5
	c     at  // what another register must hold, ahead of it
	cThen api.Slot
}

// speeches are talks with their registers 4, and 3 where there are two; branch has more than one state, and stands elsewhere.
func speeches() []speech {
	free := at{3, none}
	return []speech{
		{api.Insn{Op: api.OpSend}, sends, holds(sends, 12), 4, free, none},
		{api.Insn{Op: api.OpRecv}, receives, holds(receives, 12), 6, free, none},
		{api.Insn{Op: api.OpGive}, handsOver, holds(handsOver, 13), 5, at{3, holds(sends, 14)}, none},
		{api.Insn{Op: api.OpGive}, handsEnd, holds(ended, 0), 5, at{3, holds(ended, 0)}, none},
		{api.Insn{Op: api.OpTake}, isHanded, holds(isHanded, 13), 5, free, holds(sends, 14)},
		{api.Insn{Op: api.OpTake}, isHanded, holds(isHanded, 13), 5, at{3, word}, holds(sends, 14)},
		{api.Insn{Op: api.OpTake}, isHandedEnd, holds(ended, 0), 5, free, holds(ended, 0)},
		{api.Insn{Op: api.OpSelect, C: 0}, chooses, holds(ended, 0), 5, free, none},
		{api.Insn{Op: api.OpSelect, C: 1}, chooses, holds(sends, 11), 5, free, none},
		{api.Insn{Op: api.OpSelect, C: 2}, chooses, holds(chooses, 15), 5, free, none},
	}
}

// over is a talk over these registers.
func (p speech) over(b, c int) api.Insn {
	x := p.x
	x.B = b
	if x.Op == api.OpGive || x.Op == api.OpTake {
		x.C = c
	}
	return x
}

// Talks over each register, with each other one.
func TestTalksOverEachRegister(t *testing.T) {
	for _, p := range speeches() {
		for b := range api.MaxRegs {
			for c := range api.MaxRegs {
				x := p.over(b, c)
				if b == c {
					if x.Op == api.OpGive || x.Op == api.OpTake {
						wantError(t, "a talk over a register and itself", talkFacts(), with(among(), b, holds(p.class, 10)), x, api.ErrArg)
					}
					continue
				}
				s := with(with(among(), b, holds(p.class, 10)), c, p.c.slot)
				wantStates(t, "a talk", talkFacts(), s, x, behind(s, 11, p.depth, at{b, p.then}, at{c, p.cThen}))
			}
		}
	}
}

// Whatever a register holds, over which one talks: of a speech one class may be, but for a take, which lays what it is handed.
func TestTalksOverAllSlots(t *testing.T) {
	f := talkFacts()
	for _, p := range speeches() {
		for _, held := range slots() {
			isAlike := held.Class == isHanded || held.Class == isHandedEnd
			if p.x.Op == api.OpTake && isAlike && held.Class != p.class {
				continue
			}
			s := with(with(among(), 4, held), 3, p.c.slot)
			want := behind(s, 11, p.depth, at{4, p.then}, at{3, p.cThen})
			wantIf(t, held == holds(p.class, 10), "a talk", f, s, p.over(4, 3), want, api.ErrType)
		}
	}
	x := api.Insn{Op: api.OpBranch, B: 4, L: []int{5, 6, 7}}
	for _, held := range slots() {
		s := with(among(), 4, held)
		if held == holds(offers, 10) {
			wantStates(t, "a branch", f, s, x, behind(s, 11, 5, at{4, holds(ended, 0)}), behind(s, 11, 5, at{4, holds(receives, 11)}), behind(s, 11, 5, at{4, holds(offers, 15)}))
			continue
		}
		wantError(t, "a branch", f, s, x, api.ErrType)
	}
}

// Whatever the other register holds, of a give and of a take.
func TestWhatIsGivenAndTaken(t *testing.T) {
	f := talkFacts()
	others := append(slots(), api.Slot{Kind: api.Word, Class: sends, Prio: 14}, api.Slot{Class: sends, Prio: 14})
	for _, prio := range []int{-14, 0, 11, 13, 14, 15, 1 << 32, math.MaxInt} {
		for number := -1; number <= noClass; number++ {
			others = append(others, holds(number, prio))
		}
	}
	for _, held := range others {
		s := with(with(among(), 4, holds(handsOver, 10)), 3, held)
		wantIf(t, held == holds(sends, 14), "a give", f, s, api.Insn{Op: api.OpGive, B: 4, C: 3},
			behind(s, 11, 5, at{4, holds(handsOver, 13)}, at{3, none}), api.ErrType)
		s = with(with(among(), 4, holds(handsEnd, 10)), 3, held)
		wantIf(t, held == holds(ended, 0), "a give of an End", f, s, api.Insn{Op: api.OpGive, B: 4, C: 3},
			behind(s, 11, 5, at{4, holds(ended, 0)}, at{3, none}), api.ErrType)
		isFree := held.Kind == api.None || held.Kind == api.Word
		s = with(with(among(), 4, holds(isHanded, 10)), 3, held)
		wantIf(t, isFree, "a take", f, s, api.Insn{Op: api.OpTake, B: 4, C: 3},
			behind(s, 11, 5, at{4, holds(isHanded, 13)}, at{3, holds(sends, 14)}), api.ErrType)
		s = with(with(among(), 4, holds(isHandedEnd, 10)), 3, held)
		wantIf(t, isFree, "a take of an End", f, s, api.Insn{Op: api.OpTake, B: 4, C: 3},
			behind(s, 11, 5, at{4, holds(ended, 0)}, at{3, holds(ended, 0)}), api.ErrType)
	}
}

// labels are the facts of a Select of so many Next, the class 0, and a Branch of as many, the class 1; each goes on to itself, the i-th Next by i and 1.
func labels(count int) api.Facts {
	var nodes []api.Node
	for range 2 {
		n := of(api.Select, 3)
		for i := range count {
			n.Next = append(n.Next, far(0, i+1))
		}
		nodes = append(nodes, n)
	}
	table, _ := class.Of(nodes)
	return api.Facts{Table: table}
}

func TestLabelsOfSelectAndBranch(t *testing.T) {
	for count := 1; count <= 8; count++ {
		f := labels(count)
		if len(f.Table.Classes) != 2 {
			t.Fatalf("%d labels: %v", count, f)
		}
		s := knows(2, 1, word, holds(0, 6), holds(1, 7))
		for label := range 8 {
			x := api.Insn{Op: api.OpSelect, B: 1, C: label}
			wantIf(t, label < count, "a select", f, s, x, knows(7, 1, word, holds(0, 7+label), holds(1, 7)), api.ErrType)
		}
		s = knows(2, 1, holds(0, 9), word, holds(1, 7))
		var want []api.State
		for label := range count {
			want = append(want, knows(8, 1, holds(0, 9), word, holds(1, 8+label)))
		}
		for targets := 1; targets <= 8; targets++ {
			for _, l := range [][]int{upTo(20, targets), make([]int, targets), slices.Repeat([]int{127}, targets)} {
				x := api.Insn{Op: api.OpBranch, B: 2, L: l}
				if targets == count {
					wantStates(t, "a branch", f, s, x, want...)
					continue
				}
				wantError(t, "a branch", f, s, x, api.ErrType)
			}
		}
	}
}

// get, put, close and move, over each register, whatever it holds.
func TestWordsAndEnds(t *testing.T) {
	f := talkFacts()
	for b := range api.MaxRegs {
		for _, held := range slots() {
			s := with(among(), b, held)
			isFree := held == none || held == word
			wantIf(t, held == word, "a get", f, s, api.Insn{Op: api.OpGet, B: b}, deep(s, 6), api.ErrType)
			wantIf(t, isFree, "a put", f, s, api.Insn{Op: api.OpPut, B: b}, behind(s, 9, 4, at{b, word}), api.ErrType)
			// A Chan of a class that is none of the table's is not busy.
			isIdle := held.Kind == api.Chan && (held.Class < 0 || held.Class == ended || held.Class >= noClass)
			wantIf(t, isIdle, "a close", f, s, api.Insn{Op: api.OpClose, B: b}, behind(s, 9, 5, at{b, none}), api.ErrType)
		}
	}
}

// What lies beside a kind that has no such field counts for nothing, and is not laid.
func TestSlotsWithMoreThanTheirKindHas(t *testing.T) {
	f := talkFacts([]api.Slot{word})
	for _, kind := range []int{api.None, api.Word} {
		held := api.Slot{Kind: kind, Class: sends, Prio: 4}
		s := with(among(), 4, held)
		wantStates(t, "a put", f, s, api.Insn{Op: api.OpPut, B: 4}, behind(s, 9, 4, at{4, word}))
		wantIf(t, kind == api.Word, "a get", f, s, api.Insn{Op: api.OpGet, B: 4}, deep(s, 6), api.ErrType)
		wantStates(t, "a new", f, s, api.Insn{Op: api.OpNew, B: 1, L: []int{4, 1}}, behind(s, 9, 5, at{4, holds(ended, 0)}, at{1, holds(ended, 0)}))
		wantIf(t, kind == api.Word, "a spawn", f, s, api.Insn{Op: api.OpSpawn, L: []int{4}}, s, api.ErrType)
		wantIf(t, kind == api.Word, "a move", f, s, api.Insn{Op: api.OpMove, B: 4, C: 1}, with(s, 1, held), api.ErrType)
		wantError(t, "a send", f, s, api.Insn{Op: api.OpSend, B: 4}, api.ErrType)
		wantError(t, "a close", f, s, api.Insn{Op: api.OpClose, B: 4}, api.ErrType)
		wantStates(t, "a halt", f, knows(9, 5, held), api.Insn{Op: api.OpHalt})
		s = with(with(among(), 4, holds(sends, 19)), 3, held)
		wantStates(t, "what is lower is not busy", f, s, api.Insn{Op: api.OpSend, B: 4}, behind(s, 20, 4, at{4, holds(sends, 21)}))
	}
}

func TestMoves(t *testing.T) {
	f := talkFacts()
	for b := range api.MaxRegs {
		for c := range api.MaxRegs {
			x := api.Insn{Op: api.OpMove, B: b, C: c}
			if b == c {
				wantError(t, "a move into itself", f, with(among(), b, word), x, api.ErrArg)
				continue
			}
			for _, from := range slots() {
				for _, to := range []api.Slot{none, word, holds(ended, 0), holds(sends, 10), holds(noClass, 3), {Kind: -1}, {Kind: api.Chan + 1}} {
					s := with(with(among(), b, from), c, to)
					isSo := from != none && (to == none || to == word)
					stays := from
					if from.Kind == api.Chan {
						stays = none
					}
					wantIf(t, isSo, "a move", f, s, x, with(with(s, c, from), b, stays), api.ErrType)
				}
			}
		}
		if t.Failed() {
			return
		}
	}
}

func TestNewIntoEachTwoRegisters(t *testing.T) {
	f := talkFacts()
	for one := range api.MaxRegs {
		for other := range api.MaxRegs {
			x := api.Insn{Op: api.OpNew, B: 2, D: 4, L: []int{one, other}}
			if one == other {
				wantError(t, "one register", f, knows(0, 0), x, api.ErrArg)
				continue
			}
			for i, a := range slots() {
				for j, b := range slots() {
					s := with(with(among(), one, a), other, b)
					want := with(with(s, one, holds(handsOver, 23)), other, holds(isHanded, 23))
					wantIf(t, i < 2 && j < 2, "a new", f, s, x, want, api.ErrType)
				}
			}
		}
		if t.Failed() {
			return
		}
	}
}

// The Level and D are the type's Offset, to which the node's priority is added; an End has none.
func TestPrioritiesOfNew(t *testing.T) {
	f := talkFacts()
	for _, level := range []int{0, 1, 7, 900, 1 << 20, -3} {
		for _, d := range []int{0, 1, 6, 999, 1000} {
			for node, prio := range []int{7, 0, 10, 5, 20, 10} {
				prio += level + d
				pair := [][2]int{{sends, receives}, {ended, ended}, {handsOver, isHanded}, {handsEnd, isHandedEnd}, {chooses, offers}, {sends, receives}}[node]
				if node == 1 {
					prio = 0
				}
				x := api.Insn{Op: api.OpNew, B: node, D: d, L: []int{9, 2}}
				s := knows(level, 16, word, holds(sends, 1))
				wantStates(t, "a new", f, s, x, with(with(s, 9, holds(pair[0], prio)), 2, holds(pair[1], prio)))
			}
		}
		wantError(t, "a D that is too great", f, knows(level, 0), api.Insn{Op: api.OpNew, D: 1001, L: []int{9, 2}}, api.ErrArg)
		wantError(t, "a D below 0", f, knows(level, 0), api.Insn{Op: api.OpNew, D: -1, L: []int{9, 2}}, api.ErrArg)
	}
}

// Spawns

func TestWhatASpawnAsksFor(t *testing.T) {
	for _, asked := range []api.Slot{word, holds(ended, 0), holds(sends, 4), holds(receives, 4), holds(isHanded, 4), holds(offers, 4)} {
		for place := range 8 {
			// Of the eight registers each other one is a word.
			params := slices.Repeat([]api.Slot{word}, 8)
			params[place] = asked
			f := talkFacts(nil, params)
			x := api.Insn{Op: api.OpSpawn, B: 1, L: []int{15, 14, 1, 0, 9, 3, 7, 8}}
			s := knows(6, 5, slices.Repeat([]api.Slot{word}, 16)...)
			for _, held := range slots() {
				s := with(s, x.L[place], held)
				isSo := held.Kind == asked.Kind && held.Class == asked.Class
				after := s
				if asked != word {
					after = with(s, x.L[place], none)
				}
				wantIf(t, isSo, "a spawn", f, s, x, after, api.ErrType)
			}
		}
	}
}

// Registers stand in the order of the parameters, and just these are looked at.
func TestTheOrderOfASpawn(t *testing.T) {
	f := talkFacts([]api.Slot{holds(sends, 1), holds(receives, 1), word})
	s := knows(6, 5, holds(sends, 11), word, holds(receives, 11), holds(sends, 2), holds(ended, 0), word)
	spawn := func(l ...int) api.Insn { return api.Insn{Op: api.OpSpawn, L: l} }
	wantStates(t, "as it is asked for", f, s, spawn(0, 2, 1), with(with(s, 0, none), 2, none))
	wantStates(t, "another word", f, s, spawn(0, 2, 5), with(with(s, 0, none), 2, none))
	for _, l := range [][]int{{2, 0, 1}, {0, 1, 2}, {1, 2, 0}, {0, 2, 4}, {0, 4, 1}, {0, 2, 6}, {6, 2, 1}} {
		wantError(t, "another order", f, s, spawn(l...), api.ErrType)
	}
	wantError(t, "another one of the class", f, s, spawn(3, 2, 1), api.ErrPrio)
}

func TestPrioritiesOfASpawn(t *testing.T) {
	f := talkFacts([]api.Slot{holds(sends, 3), word, holds(offers, 0), holds(ended, 0), holds(receives, 8)})
	x := api.Insn{Op: api.OpSpawn, L: []int{12, 1, 0, 5, 4}}
	state := func(level, one, two, three int) api.State {
		s := knows(level, 5, holds(offers, two), word, holds(isHanded, level), none, holds(receives, three), holds(ended, 0))
		return with(s, 12, holds(sends, one))
	}
	for _, level := range []int{0, 1, 7, 300} {
		for by := level - 3; by <= level+3; by++ {
			s := state(level, 3+by, by, 8+by)
			want := behind(s, level, 5, at{12, none}, at{0, none}, at{5, none}, at{4, none})
			wantIf(t, by >= level, "one number", f, s, x, want, api.ErrPrio)
			for _, more := range []int{-2, -1, 1, 2, 100} {
				wantError(t, "two numbers", f, state(level, 3+by+more, by, 8+by), x, api.ErrPrio)
				wantError(t, "two numbers", f, state(level, 3+by, by+more, 8+by), x, api.ErrPrio)
				wantError(t, "two numbers", f, state(level, 3+by, by, 8+by+more), x, api.ErrPrio)
				wantError(t, "two numbers", f, state(level, 3+by, by+more, 8+by+more), x, api.ErrPrio)
				wantError(t, "three numbers", f, state(level, 3+by, by+more, 8+by+2*more), x, api.ErrPrio)
			}
		}
		// The number counts, not the priority.
		wantError(t, "priorities that are not below the Level", f, state(level, 2+level, level-1, 7+level), x, api.ErrPrio)
	}
}

// A spawn of one busy register, at the Level, above and below it; and without any.
func TestASpawnOfFewRegisters(t *testing.T) {
	for _, prio := range []int{0, 4, 1000} {
		f := talkFacts([]api.Slot{holds(sends, prio)}, []api.Slot{holds(ended, 0), word, holds(ended, 0)}, nil)
		for by := 3; by <= 9; by++ {
			s := knows(6, 0, holds(sends, prio+by), holds(sends, 1), holds(ended, 0), word, holds(ended, 0))
			wantIf(t, by >= 6, "one that is busy", f, s, api.Insn{Op: api.OpSpawn, L: []int{0}}, with(s, 0, none), api.ErrPrio)
			wantStates(t, "none that is busy", f, s, api.Insn{Op: api.OpSpawn, B: 1, L: []int{4, 3, 2}}, with(with(s, 4, none), 2, none))
			wantStates(t, "none at all", f, s, api.Insn{Op: api.OpSpawn, B: 2}, s)
		}
	}
}

// Other registers may be as low as they are: a spawn is no talk.
func TestASpawnLooksAtItsOwnRegisters(t *testing.T) {
	f := talkFacts([]api.Slot{holds(sends, 2)})
	for _, prio := range []int{-1, 0, 5, 6, 7, 8, 9} {
		s := knows(6, 0, holds(receives, prio), holds(sends, 8), holds(sends, prio))
		wantStates(t, "others", f, s, api.Insn{Op: api.OpSpawn, L: []int{1}}, with(s, 1, none))
	}
}

// ErrPrio of talks

// heard are the speeches and a branch, each as an instruction over the register b, with c beside it.
func heard(b, c int) []done {
	var l []done
	for _, p := range speeches() {
		s := with(with(knows(3, 5), b, holds(p.class, 10)), c, p.c.slot)
		l = append(l, done{x: p.over(b, c), s: s, behind: []api.State{behind(s, 11, p.depth, at{b, p.then}, at{c, p.cThen})}})
	}
	s := with(knows(3, 5), b, holds(offers, 10))
	branch := done{x: api.Insn{Op: api.OpBranch, B: b, L: []int{1, 1, 1}}, s: s}
	for _, then := range []api.Slot{holds(ended, 0), holds(receives, 11), holds(offers, 15)} {
		branch.behind = append(branch.behind, behind(s, 11, 5, at{b, then}))
	}
	return append(l, branch)
}

func TestTalksInOrder(t *testing.T) {
	f := talkFacts()
	for b := range api.MaxRegs {
		c := (b + 7) % 16
		for _, k := range heard(b, c) {
			for other := range api.MaxRegs {
				if other == b || other == c {
					continue
				}
				for _, number := range []int{sends, handsOver, chooses, receives, isHandedEnd, offers, ended, noClass, -1} {
					isBusy := number != ended && number != noClass && number != -1
					for _, prio := range []int{math.MinInt, -1, 0, 9, 10, 11, 12, math.MaxInt} {
						s := with(k.s, other, holds(number, prio))
						if isBusy && prio <= 10 {
							wantError(t, "a lower one", f, s, k.x, api.ErrPrio)
							continue
						}
						want := slices.Clone(k.behind)
						for i := range want {
							want[i].Regs[other] = holds(number, prio)
						}
						wantStates(t, "none that is lower", f, s, k.x, want...)
					}
				}
			}
		}
		if t.Failed() {
			return
		}
	}
}

// Of two others one is lower, the first or the last.
func TestOneLowerAmongHigherOnes(t *testing.T) {
	f := talkFacts()
	for lower := range api.MaxRegs {
		for b := range api.MaxRegs {
			s := knows(0, 5)
			for i := range s.Regs {
				s.Regs[i] = holds(receives, 30+i)
			}
			s.Regs[b] = holds(sends, 20)
			s.Regs[lower].Prio = 20
			x := api.Insn{Op: api.OpSend, B: b}
			wantIf(t, lower == b, "a lower one", f, s, x, behind(s, 21, 4, at{b, holds(sends, 22)}), api.ErrPrio)
		}
	}
}

// What is given is a busy one, too: of a payload that does not rise, as no table has it, it is lower.
func TestWhatIsGivenIsAbove(t *testing.T) {
	for _, jump := range []int{-2, -1, 0, 1, 2} {
		f := talkFacts()
		f.Table.Classes[handsOver].Pay.Jump = jump
		s := with(with(among(), 4, holds(handsOver, 10)), 3, holds(sends, 10+jump))
		wantIf(t, jump > 0, "a give", f, s, api.Insn{Op: api.OpGive, B: 4, C: 3}, behind(s, 11, 5, at{4, holds(handsOver, 13)}, at{3, none}), api.ErrPrio)
	}
}

// A talk hangs on no Level, also if that is above its register; instructions that are no talks hang on no priorities.
func TestWhatHangsOnNoPriorities(t *testing.T) {
	f := talkFacts()
	for _, level := range []int{math.MinInt, -1, 0, 9, 10, 11, 12, 1000, math.MaxInt} {
		for _, k := range heard(4, 3) {
			wantStates(t, "a Level", f, high(k.s, level), k.x, k.behind...)
		}
	}
	for _, k := range known() {
		if insn.Comm(k.x.Op) || k.x.Op == api.OpHalt || k.x.Op == api.OpSpawn {
			continue
		}
		s, want := with(k.s, 15, holds(sends, 0)), slices.Clone(k.behind)
		for i := range want {
			want[i].Regs[15] = holds(sends, 0)
		}
		wantStates(t, "a low one", knownFacts(), s, k.x, want...)
	}
}

// ErrHeld

func TestHalts(t *testing.T) {
	f, halt := talkFacts(), api.Insn{Op: api.OpHalt}
	wantStates(t, "nothing", f, knows(0, 0), halt)
	wantStates(t, "words", f, knows(7, 16, slices.Repeat([]api.Slot{word}, 16)...), halt)
	for register := range api.MaxRegs {
		for _, held := range slots() {
			for _, beside := range []api.Slot{none, word} {
				s := with(knows(3, 2, slices.Repeat([]api.Slot{beside}, 16)...), register, held)
				if held.Kind == api.Chan {
					wantError(t, "a Chan", f, s, halt, api.ErrHeld)
					continue
				}
				wantStates(t, "no Chan", f, s, halt)
			}
		}
	}
}

// The order of errors

// Each error by itself, the last one first: what is told ahead is put right, one behind the other.
func TestTheOrderOfErrors(t *testing.T) {
	f := talkFacts([]api.Slot{holds(sends, 1), word})
	spawn := api.Insn{Op: api.OpSpawn, L: []int{0, 1}}
	bad := knows(9, 17, holds(receives, 3), none) // a class that is not asked for, too low, and too deep
	wantError(t, "a spawn of no template", f, bad, api.Insn{Op: api.OpSpawn, B: 1, L: []int{0, 1}}, api.ErrArg)
	wantError(t, "a spawn of one register more", f, bad, api.Insn{Op: api.OpSpawn, L: []int{0, 1, 2}}, api.ErrArg)
	wantError(t, "a spawn of one register less", f, bad, api.Insn{Op: api.OpSpawn, L: []int{0}}, api.ErrArg)
	wantError(t, "a spawn, too deep", f, bad, spawn, api.ErrStack)
	wantError(t, "a spawn, below 0", f, deep(bad, -1), spawn, api.ErrStack)
	wantError(t, "a spawn of another class", f, deep(bad, 16), spawn, api.ErrType)
	wantError(t, "a spawn that is too low, and without a word", f, knows(9, 16, holds(sends, 3), none), spawn, api.ErrType)
	wantError(t, "a spawn that is too low", f, knows(9, 16, holds(sends, 3), word), spawn, api.ErrPrio)
	wantStates(t, "a spawn", f, knows(9, 16, holds(sends, 10), word), spawn, knows(9, 16, none, word))

	full := knows(0, 17, holds(sends, 1), holds(sends, 0))
	wantError(t, "a new of no node", f, full, api.Insn{Op: api.OpNew, B: 6, L: []int{0, 1}}, api.ErrArg)
	wantError(t, "a new, too deep", f, full, api.Insn{Op: api.OpNew, B: 5, L: []int{0, 1}}, api.ErrStack)
	wantError(t, "a new into what is held", f, deep(full, 16), api.Insn{Op: api.OpNew, B: 5, L: []int{0, 1}}, api.ErrType)

	halt := api.Insn{Op: api.OpHalt}
	wantError(t, "a halt, too deep", f, full, halt, api.ErrStack)
	wantError(t, "a halt", f, deep(full, 16), halt, api.ErrHeld)
}

// Of talks: ErrStack ahead of ErrType, and that ahead of ErrPrio.
func TestTheOrderOfErrorsOfTalks(t *testing.T) {
	f := talkFacts()
	for _, k := range heard(4, 3) {
		isWrong := []int{-1, 17}
		switch k.x.Op {
		case api.OpSend:
			isWrong = []int{-1, 0, 18}
		case api.OpRecv:
			isWrong = []int{-1, 16, 17}
		}
		low := with(k.s, 9, holds(receives, 10))
		for _, depth := range isWrong {
			wantError(t, "all is wrong", f, deep(with(low, 4, none), depth), k.x, api.ErrStack)
			wantError(t, "Depth and priorities are wrong", f, deep(low, depth), k.x, api.ErrStack)
			wantError(t, "Depth and types are wrong", f, deep(with(k.s, 4, word), depth), k.x, api.ErrStack)
		}
		for _, held := range []api.Slot{none, word, holds(ended, 0), holds(noClass, 30)} {
			wantError(t, "types and priorities are wrong", f, with(low, 4, held), k.x, api.ErrType)
		}
		wantError(t, "priorities are wrong", f, low, k.x, api.ErrPrio)
		wantStates(t, "all is well", f, k.s, k.x, k.behind...)
	}
}

// Numbers that do not fit are taken by their lowest 64 bits.
func TestNumbersThatDoNotFit(t *testing.T) {
	f := talkFacts([]api.Slot{holds(sends, math.MinInt)})
	s := knows(0, 1, holds(sends, math.MaxInt))
	wantStates(t, "a send", f, s, api.Insn{Op: api.OpSend}, knows(math.MinInt, 0, holds(sends, math.MinInt+1)))
	wantStates(t, "a new", f, knows(math.MaxInt, 0), api.Insn{Op: api.OpNew, D: 1, L: []int{0, 1}}, knows(math.MaxInt, 0, holds(sends, math.MinInt+7), holds(receives, math.MinInt+7)))
	wantStates(t, "a spawn", f, knows(0, 0, holds(sends, math.MinInt+1)), api.Insn{Op: api.OpSpawn, L: []int{0}}, knows(0, 0))
	wantError(t, "a spawn", f, knows(0, 0, holds(sends, 0)), api.Insn{Op: api.OpSpawn, L: []int{0}}, api.ErrPrio)
	wantStates(t, "a push", f, knows(0, math.MaxInt), api.Insn{Op: api.OpPush}, knows(0, math.MinInt))
}

// Facts that the layers did not make may lead to no class.
func TestClassesThatAreNot(t *testing.T) {
	f := talkFacts()
	f.Table.Classes[sends].Next = nil
	wantStates(t, "no Next", f, knows(0, 1, holds(sends, 3)), api.Insn{Op: api.OpSend}, knows(4, 0, holds(-1, 0)))
	f = talkFacts()
	f.Table.Classes[isHanded].Pay.Class = noClass
	wantStates(t, "no payload", f, knows(0, 0, holds(isHanded, 3)), api.Insn{Op: api.OpTake, C: 1}, knows(4, 0, holds(isHanded, 6), holds(-1, 0)))
	wantError(t, "a give over a register that sends words", f, knows(0, 0, holds(sends, 3), holds(-1, 0)), api.Insn{Op: api.OpGive, C: 1}, api.ErrType)
	f = talkFacts()
	f.Table.Of[0] = noClass
	wantStates(t, "a node of no class", f, knows(0, 0), api.Insn{Op: api.OpNew, L: []int{0, 1}}, knows(0, 0, holds(-1, 0), holds(-1, 0)))
	f = talkFacts()
	f.Table.Prio = nil
	wantStates(t, "a node without a priority", f, knows(0, 0), api.Insn{Op: api.OpNew, L: []int{0, 1}}, knows(0, 0, holds(-1, 0), holds(-1, 0)))
	f = talkFacts()
	f.Table.Of = f.Table.Of[:11]
	wantStates(t, "the last node of five", f, knows(0, 0), api.Insn{Op: api.OpNew, B: 4, L: []int{0, 1}}, knows(0, 0, holds(chooses, 20), holds(offers, 20)))
	wantError(t, "a node behind five", f, knows(0, 0), api.Insn{Op: api.OpNew, B: 5, L: []int{0, 1}}, api.ErrArg)
	f = talkFacts([]api.Slot{none, {Kind: 9}})
	wantStates(t, "parameters that are none", f, among(), api.Insn{Op: api.OpSpawn, L: []int{0, 2}}, with(among(), 2, none))
}

// All of one module's facts, from many goroutines at one time.
func TestManyAskAtOneTime(t *testing.T) {
	f, all := knownFacts(), known()
	var asking sync.WaitGroup
	for range 8 {
		asking.Go(func() {
			for range 50 {
				for _, k := range all {
					if got, e := rule.Step(f, k.s, k.x); e != api.OK || !slices.Equal(got, k.behind) {
						t.Errorf("%v: %v, %d", k.x, got, e)
					}
				}
			}
		})
	}
	asking.Wait()
}
