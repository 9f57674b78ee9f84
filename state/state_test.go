package state_test

import (
	"math"
	"slices"
	"sync"
	"testing"

	"colloquy/api"
	"colloquy/class"
	"colloquy/facts"
	"colloquy/modules"
	"colloquy/state"
	"colloquy/tables"
)

// How tables of types, slots, states and parameters are laid.
var (
	far, of, ofEnd, alias = tables.Far, tables.Of, tables.OfEnd, tables.Alias
	oddNumbers            = tables.OddNumbers
	none, word            = api.Slot{}, facts.Word()
	holds, knows          = facts.Holds, facts.Knows
	asks                  = modules.Asks
)

// theWord is a parameter that is a word.
var theWord api.Param

// moduleOf is a module of nodes, and of templates with these parameters each.
func moduleOf(nodes []api.Node, params ...[]api.Param) api.Module {
	m := api.Module{Nodes: nodes}
	for _, l := range params {
		m.Templates = append(m.Templates, api.Template{Params: l})
	}
	return m
}

// talk are nodes of which two each are of one class: 0 and the Alias of it, and 2 and the dual of 0.
func talk() []api.Node {
	return []api.Node{
		of(api.Send, 3, far(1, 0)),
		{},
		of(api.Recv, 5, far(1, 0)),
		of(api.Select, 7, far(1, 0), far(0, 5)),
		alias(0, 20),
		ofEnd(api.Send, 9, far(0, 10), far(1, 0)),
	}
}

// The classes of talk.
const (
	sends     = 0
	ended     = 1
	receives  = 2
	chooses   = 3
	handsOver = 4
	offers    = 5
	isHanded  = 6
	noClass   = 7
)

// talkTable is the table of talk.
func talkTable() api.Table {
	link := func(class, jump int) api.Link { return api.Link{Class: class, Jump: jump} }
	return api.Table{
		Classes: []api.Class{
			{Kind: api.Send, Dual: receives, Next: []api.Link{link(ended, 0)}},
			{Kind: api.End, Dual: ended},
			{Kind: api.Recv, Dual: sends, Next: []api.Link{link(ended, 0)}},
			{Kind: api.Select, Dual: offers, Next: []api.Link{link(ended, 0), link(sends, 1)}},
			{Kind: api.Send, Dual: isHanded, IsChan: true, Pay: link(sends, 4), Next: []api.Link{link(ended, 0)}},
			{Kind: api.Branch, Dual: chooses, Next: []api.Link{link(ended, 0), link(receives, 1)}},
			{Kind: api.Recv, Dual: handsOver, IsChan: true, Pay: link(sends, 4), Next: []api.Link{link(ended, 0)}},
		},
		Of:   []int{sends, ended, receives, chooses, sends, handsOver, receives, ended, sends, offers, receives, isHanded},
		Prio: []int{3, 0, 5, 7, 23, 9, 3, 0, 5, 7, 23, 9},
	}
}

// talkFacts are the facts of talk, and of templates with these slots each.
func talkFacts(slots ...[]api.Slot) api.Facts {
	return api.Facts{Table: talkTable(), Params: slots}
}

// wantFacts asks for what Facts answers, again also where the first answer was changed, and that the module stays as it was.
func wantFacts(t *testing.T, what string, m api.Module, want api.Facts) {
	t.Helper()
	given := modules.Roomy(m)
	for range 2 {
		got, e := state.Facts(given)
		if e != api.OK || !facts.Same(got, want) {
			t.Errorf("%s: %v, %d, but %v is asked for", what, got, e, want)
		}
		spoilFacts(got)
	}
	if !modules.Same(given, m) || !modules.IsRoomEmpty(given) {
		t.Errorf("%s: what was handed in is changed", what)
	}
}

// wantError asks for no facts, and this error, and that the module stays as it was.
func wantError(t *testing.T, what string, m api.Module, want api.Errno) {
	t.Helper()
	given := modules.Roomy(m)
	for range 2 {
		if got, e := state.Facts(given); e != want || !facts.Same(got, api.Facts{}) {
			t.Errorf("%s: %v, %d, but nothing, and %d, is asked for", what, got, e, want)
		}
	}
	if !modules.Same(given, m) || !modules.IsRoomEmpty(given) {
		t.Errorf("%s: what was handed in is changed", what)
	}
}

// wantSlots asks for the slots of one template's parameters, by the classes of talk.
func wantSlots(t *testing.T, what string, params []api.Param, slots ...api.Slot) {
	t.Helper()
	wantFacts(t, what, moduleOf(talk(), params), talkFacts(slots))
}

// spoilFacts lays other numbers into each list of facts, and behind it.
func spoilFacts(f api.Facts) {
	for i := range f.Table.Classes {
		next := f.Table.Classes[i].Next
		for j := range next {
			next[j] = api.Link{Class: -9, Jump: -9}
		}
		_ = append(next, api.Link{Class: -8})
		f.Table.Classes[i] = api.Class{Kind: -9}
	}
	for _, l := range [][]int{f.Table.Of, f.Table.Prio} {
		for i := range l {
			l[i] = -9
		}
		_ = append(l, -8)
	}
	for i, slots := range f.Params {
		for j := range slots {
			slots[j] = holds(-9, -9)
		}
		_ = append(slots, holds(-8, -8))
		f.Params[i] = nil
	}
}

// asking hands facts to a call, and asks that they stay as they were.
func asking(t *testing.T, what string, f api.Facts, call func(f api.Facts)) {
	t.Helper()
	given := facts.Roomy(f)
	for range 2 {
		call(given)
	}
	if !facts.Same(given, f) || !facts.IsRoomEmpty(given) {
		t.Errorf("%s: what was handed in is changed", what)
	}
}

func wantEntry(t *testing.T, what string, f api.Facts, template int, want api.State) {
	t.Helper()
	asking(t, what, f, func(f api.Facts) {
		if got := state.Entry(f, template); got != want {
			t.Errorf("%s: Entry of %d: %v, but %v is asked for", what, template, got, want)
		}
	})
}

func wantBusy(t *testing.T, what string, f api.Facts, x api.Slot, want bool) {
	t.Helper()
	asking(t, what, f, func(f api.Facts) {
		if got := state.Busy(f, x); got != want {
			t.Errorf("%s: Busy of %v: %v", what, x, got)
		}
	})
}

// wantRaised asks for the least priority of what is busy, and for the state, raised; for the state as it is, if nothing is busy.
func wantRaised(t *testing.T, what string, f api.Facts, s api.State, least int, isThere bool) {
	t.Helper()
	want := s
	if isThere {
		want.Level = least
	}
	asking(t, what, f, func(f api.Facts) {
		if got, is := state.Least(f, s); got != least || is != isThere {
			t.Errorf("%s: Least of %v: %d, %v, but %d, %v is asked for", what, s, got, is, least, isThere)
		}
		if got := state.Raise(f, s); got != want {
			t.Errorf("%s: Raise of %v: %v, but %v is asked for", what, s, got, want)
		}
	})
}

func wantShift(t *testing.T, what string, f api.Facts, a, b api.State, by int, isThere bool) {
	t.Helper()
	asking(t, what, f, func(f api.Facts) {
		if got, is := state.Shift(f, a, b); got != by || is != isThere {
			t.Errorf("%s: Shift of %v and %v: %d, %v, but %d, %v is asked for", what, a, b, got, is, by, isThere)
		}
	})
}

// The chapter's examples

func TestExamples(t *testing.T) {
	m := moduleOf([]api.Node{of(api.Send, 3, far(1, 0)), {}}, []api.Param{theWord, asks(0, 4), asks(1, 0)})
	f := api.Facts{
		Table: api.Table{
			Classes: []api.Class{{Kind: api.Send, Dual: 2, Next: []api.Link{{Class: 1}}}, {Kind: api.End, Dual: 1}, {Kind: api.Recv, Dual: 0, Next: []api.Link{{Class: 1}}}},
			Of:      []int{0, 1, 2, 1},
			Prio:    []int{3, 0, 3, 0},
		},
		Params: [][]api.Slot{{word, holds(0, 7), holds(1, 0)}},
	}
	wantFacts(t, "the chapter's nodes", m, f)
	entry := knows(7, 0, word, holds(0, 7), holds(1, 0))
	wantEntry(t, "the chapter's template", f, 0, entry)
	wantShift(t, "the Level 9 and the priority 9", f, entry, knows(9, 0, word, holds(0, 9), holds(1, 0)), 2, true)
	wantShift(t, "the Level 9 alone", f, entry, knows(9, 0, word, holds(0, 7), holds(1, 0)), 0, false)
	wantShift(t, "a Word in the register 3", f, entry, knows(7, 0, word, holds(0, 7), holds(1, 0), word), 0, false)
	wantRaised(t, "nothing is busy", f, knows(5, 0), 0, false)
	wantRaised(t, "nothing is busy", f, knows(5, 2, word, holds(1, 0), none, word), 0, false)
}

// P13.1, errors

func TestErrorsOfClasses(t *testing.T) {
	for _, w := range []struct {
		what  string
		nodes []api.Node
		code  api.Errno
	}{
		{"no nodes", nil, api.ErrArg},
		{"a list without nodes", []api.Node{}, api.ErrArg},
		{"too many nodes", make([]api.Node, api.MaxNodes+1), api.ErrLong},
		{"a kind that is none", []api.Node{{}, {Kind: api.LastKind + 1}}, api.ErrKind},
		{"a priority that is too high", []api.Node{{}, of(api.Send, api.MaxPrio+1, far(0, 0))}, api.ErrKind},
		{"a node without Next", []api.Node{of(api.Send, 0)}, api.ErrKind},
		{"an edge that leads out", []api.Node{{}, of(api.Send, 0, far(2, 0))}, api.ErrOpen},
		{"an alias of itself", []api.Node{{}, alias(1, 1)}, api.ErrAlias},
		{"a level round", []api.Node{of(api.Send, 5, far(0, 0))}, api.ErrOrder},
	} {
		if _, e := class.Of(w.nodes); e != w.code {
			t.Fatalf("%s: class.Of: %d, but %d is asked for", w.what, e, w.code)
		}
		wantError(t, w.what, moduleOf(w.nodes), w.code)
		wantError(t, w.what, moduleOf(w.nodes, []api.Param{theWord}), w.code)
		// What is wrong with a template is not told.
		wantError(t, w.what, moduleOf(w.nodes, []api.Param{asks(0, 0)}, []api.Param{asks(-1, 0)}), w.code)
		wantError(t, w.what, moduleOf(w.nodes, make([]api.Param, 9)), w.code)
	}
}

func TestHowManyParams(t *testing.T) {
	all := []api.Param{theWord, asks(0, 1), asks(1, 2), theWord, asks(2, 3), asks(3, 4), asks(4, 5), asks(5, 6), theWord}
	slots := []api.Slot{word, holds(sends, 4), holds(ended, 0), word, holds(receives, 8), holds(chooses, 11), holds(sends, 28), holds(handsOver, 15)}
	for n := range 9 {
		wantSlots(t, "mixed parameters", all[:n], slots[:n]...)
		wantSlots(t, "the last ones of them", all[8-n:8], slots[8-n:]...)
		wantSlots(t, "words", make([]api.Param, n), slices.Repeat([]api.Slot{word}, n)...)
		wantSlots(t, "endpoints", slices.Repeat([]api.Param{asks(2, 9)}, n), slices.Repeat([]api.Slot{holds(receives, 14)}, n)...)
	}
	wantError(t, "nine mixed parameters", moduleOf(talk(), all), api.ErrArg)
	for _, n := range []int{9, 10, 16, 17, 255, 256, 1 << 17} {
		words, ends := make([]api.Param, n), slices.Repeat([]api.Param{asks(0, 0)}, n)
		wantError(t, "too many words", moduleOf(talk(), words), api.ErrArg)
		wantError(t, "too many endpoints", moduleOf(talk(), ends), api.ErrArg)
		wantError(t, "too many words of the first template", moduleOf(talk(), words, nil, all[:8]), api.ErrArg)
		wantError(t, "too many endpoints of the last template", moduleOf(talk(), all[:8], nil, ends), api.ErrArg)
	}
}

// Behind the nodes stand their duals in the table, but no parameter is of them.
func TestNodesOfParams(t *testing.T) {
	for _, n := range []int{1, 2, 3, 63, 64} {
		nodes := make([]api.Node, n)
		table, e := class.Of(nodes)
		if e != api.OK {
			t.Fatalf("%d Ends: %d", n, e)
		}
		for _, node := range []int{0, n / 2, n - 1} {
			wantFacts(t, "a node that is there", moduleOf(nodes, []api.Param{asks(node, 3)}), api.Facts{Table: table, Params: [][]api.Slot{{holds(0, 0)}}})
		}
		for _, node := range append(oddNumbers(), n, n+1, 2*n-1, 2*n, 2*n+1) {
			if 0 <= node && node < n {
				continue
			}
			wantError(t, "a node that is not there", moduleOf(nodes, []api.Param{asks(node, 3)}), api.ErrArg)
			for place := range 8 {
				params := slices.Repeat([]api.Param{asks(n-1, 0)}, 8)
				params[place] = asks(node, 0)
				wantError(t, "a node that is not there, among others", moduleOf(nodes, params), api.ErrArg)
				params = make([]api.Param, 8)
				params[place] = asks(node, 0)
				wantError(t, "a node that is not there, among words", moduleOf(nodes, nil, params, nil), api.ErrArg)
			}
		}
	}
	wantSlots(t, "all nodes", []api.Param{asks(0, 0), asks(1, 0), asks(2, 0), asks(3, 0), asks(4, 0), asks(5, 0)},
		holds(sends, 3), holds(ended, 0), holds(receives, 5), holds(chooses, 7), holds(sends, 23), holds(handsOver, 9))
	for node := 6; node < 12; node++ {
		wantError(t, "a dual", moduleOf(talk(), []api.Param{asks(node, 0)}), api.ErrArg)
	}
}

// P13.1, slots

func TestAWordHasNoType(t *testing.T) {
	for _, odd := range append(oddNumbers(), 0, 1, 5, 6, 12) {
		wantSlots(t, "a word with a node", []api.Param{{Type: api.Type{Node: odd}}, asks(0, 0)}, word, holds(sends, 3))
		wantSlots(t, "a word with an Offset", []api.Param{asks(0, 0), {Type: api.Type{Offset: odd}}}, holds(sends, 3), word)
	}
}

func TestParamsOfOneClass(t *testing.T) {
	wantSlots(t, "several Offsets", []api.Param{asks(0, 0), asks(0, 1), asks(0, 1000), asks(0, 20)}, holds(sends, 3), holds(sends, 4), holds(sends, 1003), holds(sends, 23))
	wantSlots(t, "an Alias", []api.Param{asks(4, 0), asks(0, 20), asks(4, 7), asks(4, -23)}, holds(sends, 23), holds(sends, 23), holds(sends, 30), holds(sends, 0))
	wantSlots(t, "Ends", []api.Param{asks(1, 0), asks(1, 8), asks(1, 1000)}, holds(ended, 0), holds(ended, 0), holds(ended, 0))
	m := moduleOf([]api.Node{alias(1, 2), alias(2, 30), of(api.Send, 5, far(3, 0)), {}, alias(3, 9), of(api.Send, 8, far(4, 0))},
		[]api.Param{asks(0, 100), asks(1, 100), asks(2, 100), asks(5, 100), asks(4, 100), asks(3, 100)})
	f, e := state.Facts(m)
	if e != api.OK || !slices.Equal(f.Params[0], []api.Slot{holds(0, 137), holds(0, 135), holds(0, 105), holds(0, 108), holds(1, 0), holds(1, 0)}) {
		t.Errorf("aliases of aliases: %v, %d", f, e)
	}
}

// An Offset is taken as it is, and by its lowest 64 bits.
func TestOffsetsOfAnySize(t *testing.T) {
	for _, odd := range append(oddNumbers(), 1001, math.MaxInt-3, math.MaxInt-2) {
		wantSlots(t, "an Offset", []api.Param{asks(0, odd), asks(1, odd), asks(4, odd)}, holds(sends, odd+3), holds(ended, 0), holds(sends, odd+23))
	}
}

func TestHowManyTemplates(t *testing.T) {
	wantFacts(t, "no template", moduleOf(talk()), talkFacts())
	for _, n := range []int{1, 2, 16, 17, 300} {
		var params [][]api.Param
		var slots [][]api.Slot
		for i := range n {
			params = append(params, slices.Repeat([]api.Param{asks(0, i)}, i%9))
			slots = append(slots, slices.Repeat([]api.Slot{holds(sends, 3+i)}, i%9))
		}
		wantFacts(t, "templates", moduleOf(talk(), params...), talkFacts(slots...))
		for _, place := range []int{0, n / 2, n - 1} {
			was := params[place]
			params[place] = []api.Param{theWord, asks(6, 0)}
			wantError(t, "a node that is not there", moduleOf(talk(), params...), api.ErrArg)
			params[place] = make([]api.Param, 9)
			wantError(t, "too many parameters", moduleOf(talk(), params...), api.ErrArg)
			params[place] = was
		}
	}
}

// Just nodes and parameters count.
func TestWhatElseIsInAModule(t *testing.T) {
	m := moduleOf(talk(), []api.Param{asks(0, 0), theWord})
	m.Templates[0].Code = []api.Insn{{Op: 99, B: -1, L: []int{7}}}
	m.Templates[0].At = []int{1, 2, 3}
	m.Chans = []api.Type{{Node: -1, Offset: math.MinInt}}
	m.Starts = []api.Start{{Template: 9, Args: []api.Arg{{IsChan: true, End: -1}}}}
	m.NodeAt, m.TemplateAt, m.ChanAt, m.StartAt = []int{5}, []int{6, 7}, []int{8}, []int{9}
	wantFacts(t, "a module of all sorts", m, talkFacts([]api.Slot{holds(sends, 3), word}))
}

// Lists that are changed, or are added to, change no other list of the answer.
func TestNoTwoListsOfAnAnswerShare(t *testing.T) {
	params := [][]api.Param{{asks(0, 0), theWord}, {asks(0, 0), theWord}, {}, {asks(2, 0)}, {theWord, theWord, theWord}}
	slots := [][]api.Slot{{holds(sends, 3), word}, {holds(sends, 3), word}, {}, {holds(receives, 5)}, {word, word, word}}
	m := moduleOf(talk(), params...)
	for i := range params {
		got, e := state.Facts(m)
		if e != api.OK {
			t.Fatal(e)
		}
		for j := range got.Params[i] {
			got.Params[i][j] = holds(-9, -9)
		}
		_ = append(got.Params[i], holds(-8, -8), holds(-8, -8), holds(-8, -8))
		for j, l := range got.Params {
			if j != i && !slices.Equal(l, slots[j]) {
				t.Errorf("the slots of %d are changed by those of %d: %v", j, i, l)
			}
		}
		if !facts.SameTable(got.Table, talkTable()) {
			t.Errorf("the table is changed by the slots of %d", i)
		}
	}
}

// P13.2

func TestEntry(t *testing.T) {
	for _, row := range []struct {
		what  string
		slots []api.Slot
		level int
	}{
		{"no parameters", nil, 0},
		{"a word", []api.Slot{word}, 0},
		{"words", slices.Repeat([]api.Slot{word}, 8), 0},
		{"Ends", []api.Slot{holds(ended, 0), word, holds(ended, 0)}, 0},
		{"one busy register", []api.Slot{holds(sends, 3)}, 3},
		{"one busy register behind others", []api.Slot{word, word, holds(ended, 0), holds(offers, 1000)}, 1000},
		{"a busy register of the priority 0", []api.Slot{holds(chooses, 0), holds(receives, 5)}, 0},
		{"the least one first", []api.Slot{holds(sends, 4), holds(receives, 8), holds(chooses, 5)}, 4},
		{"the least one in the middle", []api.Slot{holds(sends, 6), holds(receives, 4), holds(chooses, 5)}, 4},
		{"the least one last", []api.Slot{holds(sends, 6), holds(receives, 8), holds(chooses, 5)}, 5},
		{"the least one twice", []api.Slot{word, holds(sends, 6), holds(receives, 8), holds(chooses, 6), word}, 6},
		{"an End is not busy", []api.Slot{holds(ended, 0), holds(receives, 8), holds(ended, 0)}, 8},
		{"eight parameters", []api.Slot{holds(sends, 16), word, holds(receives, 15), word, holds(chooses, 14), holds(ended, 0), holds(handsOver, 13), holds(isHanded, 12)}, 12},
		{"one below 0", []api.Slot{holds(sends, 16), holds(sends, -5)}, -5},
	} {
		// The same template at each place.
		for place := range 3 {
			f := talkFacts([]api.Slot{holds(sends, 1)}, []api.Slot{word, holds(sends, 2)}, []api.Slot{holds(isHanded, -1)})
			f.Params[place] = row.slots
			wantEntry(t, row.what, f, place, knows(row.level, 0, row.slots...))
		}
	}
}

func TestEntryOfNoTemplate(t *testing.T) {
	for n := range 4 {
		f := talkFacts(slices.Repeat([][]api.Slot{{holds(sends, 5), word}}, n)...)
		for _, template := range append(oddNumbers(), n, n+1, 16) {
			wantEntry(t, "no template", f, template, api.State{})
		}
		for template := range n {
			wantEntry(t, "a template", f, template, knows(5, 0, holds(sends, 5), word))
		}
	}
	wantEntry(t, "facts of nothing", api.Facts{}, 0, api.State{})
}

// Facts that Facts did not make may have more slots than there are registers.
func TestEntryOfManySlots(t *testing.T) {
	for _, n := range []int{15, 16, 17, 1000} {
		slots := slices.Repeat([]api.Slot{holds(sends, 9)}, n)
		slots[14] = holds(receives, 4)
		for i := 16; i < n; i++ {
			slots[i] = holds(sends, 1)
		}
		wantEntry(t, "many slots", talkFacts(slots), 0, knows(4, 0, slots...))
	}
}

func TestBusy(t *testing.T) {
	f := talkFacts()
	for number, c := range f.Table.Classes {
		for _, prio := range append(oddNumbers(), 0, 1, 7) {
			wantBusy(t, "a Chan", f, holds(number, prio), c.Kind != api.End)
			wantBusy(t, "a Word", f, api.Slot{Kind: api.Word, Class: number, Prio: prio}, false)
			wantBusy(t, "nothing", f, api.Slot{Class: number, Prio: prio}, false)
		}
		for _, kind := range append(oddNumbers(), api.Chan+1) {
			wantBusy(t, "a kind that is none", f, api.Slot{Kind: kind, Class: number}, false)
		}
	}
	for _, number := range append(oddNumbers(), noClass, noClass+1) {
		wantBusy(t, "a class that is none of the table's", f, holds(number, 3), false)
	}
	for _, number := range []int{-1, 0, 1} {
		wantBusy(t, "a table without classes", api.Facts{}, holds(number, 0), false)
	}
	for _, kind := range append(oddNumbers(), api.Alias, api.LastKind+1) {
		wantBusy(t, "a class whose Kind is no End", api.Facts{Table: api.Table{Classes: []api.Class{{}, {Kind: kind}}}}, holds(1, 0), true)
	}
}

func TestLeastAndRaise(t *testing.T) {
	f := talkFacts()
	for _, row := range []struct {
		what    string
		slots   []api.Slot
		least   int
		isThere bool
	}{
		{"nothing", nil, 0, false},
		{"words", []api.Slot{word, word}, 0, false},
		{"an End", []api.Slot{holds(ended, 0)}, 0, false},
		{"no class", []api.Slot{holds(noClass, 1), holds(-1, 2)}, 0, false},
		{"one", []api.Slot{holds(sends, 7)}, 7, true},
		{"the first one", []api.Slot{holds(sends, 7), holds(receives, 8), holds(chooses, 9)}, 7, true},
		{"one in the middle", []api.Slot{holds(sends, 8), holds(receives, 7), holds(chooses, 9)}, 7, true},
		{"the last one", []api.Slot{holds(sends, 8), holds(receives, 9), holds(chooses, 7)}, 7, true},
		{"the same one twice", []api.Slot{holds(sends, 8), holds(receives, 7), holds(chooses, 7), none, holds(offers, 8)}, 7, true},
		{"0", []api.Slot{holds(sends, 0)}, 0, true},
		{"0 behind another one", []api.Slot{holds(sends, 1), holds(sends, 0)}, 0, true},
		{"0 ahead of another one", []api.Slot{holds(sends, 0), holds(sends, 1)}, 0, true},
		{"below 0", []api.Slot{holds(sends, -2), holds(handsOver, -3), holds(isHanded, 0)}, -3, true},
		{"the least number", []api.Slot{holds(sends, 0), holds(sends, math.MinInt), holds(sends, math.MinInt+1)}, math.MinInt, true},
		{"the greatest number", []api.Slot{holds(sends, math.MaxInt), holds(sends, math.MaxInt)}, math.MaxInt, true},
		{"what is not busy is lower", []api.Slot{holds(ended, 1), holds(sends, 6), holds(noClass, 0), {Kind: api.Word, Prio: 2}, {Prio: 3}, {Kind: 3, Prio: 4}, holds(-1, 5)}, 6, true},
	} {
		for _, level := range []int{0, 1, 5, 6, 7, 8, 900, -4, math.MinInt, math.MaxInt} {
			for _, depth := range []int{0, 1, 16, 17, -1} {
				wantRaised(t, row.what, f, knows(level, depth, row.slots...), row.least, row.isThere)
			}
		}
		wantRaised(t, row.what+", by facts of nothing", api.Facts{}, knows(77, 0, row.slots...), 0, false)
	}
}

// Each of the 16 registers counts.
func TestEachRegisterCounts(t *testing.T) {
	f := talkFacts()
	for i := range api.MaxRegs {
		s := knows(50, 3)
		s.Regs[i] = holds(receives, 9)
		wantRaised(t, "one busy register", f, s, 9, true)
		for j := range s.Regs {
			s.Regs[j] = holds(sends, 20+j)
		}
		s.Regs[i].Prio = 10
		wantRaised(t, "one that is lower", f, s, 10, true)
		s.Regs[i].Class = ended
		wantRaised(t, "one that is not busy", f, s, 20+max(0, 1-i), true)
		b := shifted(f, s, 4)
		wantShift(t, "one that is not busy", f, s, b, 4, true)
		for j := range b.Regs {
			c := b
			c.Regs[j].Prio++
			wantShift(t, "one register has another priority", f, s, c, 0, false)
		}
	}
}

// P13.3

// others are states that are each other in just one thing.
func others(s api.State) []api.State {
	var l []api.State
	add := func(change func(s *api.State)) {
		other := s
		change(&other)
		l = append(l, other)
	}
	for _, by := range []int{1, -1, 1 << 32, math.MinInt} {
		add(func(s *api.State) { s.Level += by })
		add(func(s *api.State) { s.Depth += by })
		for i := range s.Regs {
			add(func(s *api.State) { s.Regs[i].Kind += by })
			add(func(s *api.State) { s.Regs[i].Class += by })
			add(func(s *api.State) { s.Regs[i].Prio += by })
		}
	}
	return l
}

// several are states of all sorts.
func several() []api.State {
	full := knows(4, 16)
	for i := range full.Regs {
		full.Regs[i] = []api.Slot{holds(sends, 40+i), word, holds(ended, 0), none, holds(offers, i)}[i%5]
	}
	return []api.State{
		{},
		knows(5, 0),
		knows(0, 2, word, none, word),
		knows(7, 1, word, holds(sends, 7), holds(ended, 0)),
		knows(3, 0, holds(ended, 0), holds(noClass, 6), holds(-1, 5), api.Slot{Kind: api.Word, Class: 3, Prio: 4}, api.Slot{Class: 1}, api.Slot{Kind: 9, Prio: 1}),
		knows(-9, -3, holds(handsOver, -9), holds(isHanded, 0)),
		full,
	}
}

func TestSame(t *testing.T) {
	for i, s := range several() {
		if again := s; !state.Same(s, again) || !state.Same(several()[i], s) {
			t.Errorf("%v is not the same as itself", s)
		}
		for j, other := range several() {
			if state.Same(s, other) != (i == j) {
				t.Errorf("Same of %v and %v: %v", s, other, i != j)
			}
		}
		for _, other := range others(s) {
			if state.Same(s, other) || state.Same(other, s) {
				t.Errorf("%v and %v are the same", s, other)
			}
		}
	}
}

// shifted is a state that is another one, further by some number.
func shifted(f api.Facts, s api.State, by int) api.State {
	s.Level += by
	for i, x := range s.Regs {
		isChan := x.Kind == api.Chan && x.Class >= 0 && x.Class < len(f.Table.Classes)
		if isChan && f.Table.Classes[x.Class].Kind != api.End {
			s.Regs[i].Prio += by
		}
	}
	return s
}

func TestShift(t *testing.T) {
	f := talkFacts()
	for _, s := range several() {
		for _, by := range append(oddNumbers(), 0, 1, 2, 1000, -1000) {
			b := shifted(f, s, by)
			wantShift(t, "further", f, s, b, by, true)
			wantShift(t, "the other way round", f, b, s, -by, true)
			for i := range s.Regs {
				if !state.Busy(f, s.Regs[i]) && by != 0 {
					c := b
					c.Regs[i].Prio += by
					wantShift(t, "what is not busy is further, too", f, s, c, 0, false)
				}
			}
		}
	}
}

func TestShiftOfStatesThatDifferInOneThing(t *testing.T) {
	f := talkFacts()
	for _, s := range several() {
		_, isBusy := state.Least(f, s)
		for _, by := range []int{0, 3, -3} {
			for _, other := range others(shifted(f, s, by)) {
				isLevel := other.Level != s.Level+by
				if isLevel && !isBusy { // a state in which nothing is busy is further by its Level alone
					wantShift(t, "the Level alone", f, s, other, other.Level-s.Level, true)
					continue
				}
				wantShift(t, "one thing", f, s, other, 0, false)
				wantShift(t, "one thing, the other way round", f, other, s, 0, false)
			}
		}
	}
}

// By other facts other registers are busy.
func TestShiftByOtherFacts(t *testing.T) {
	a, b := knows(5, 0, holds(sends, 5), holds(ended, 8)), knows(7, 0, holds(sends, 7), holds(ended, 8))
	wantShift(t, "the facts of talk", talkFacts(), a, b, 2, true)
	wantShift(t, "facts of nothing", api.Facts{}, a, b, 0, false)
	b.Regs[1].Prio = 10
	wantShift(t, "the facts of talk", talkFacts(), a, b, 0, false)
	wantShift(t, "facts by which both act", api.Facts{Table: api.Table{Classes: []api.Class{{Kind: 1}, {Kind: 2}}}}, a, b, 2, true)
	b.Regs[0].Prio = 5
	wantShift(t, "facts by which the other one acts", api.Facts{Table: api.Table{Classes: []api.Class{{}, {Kind: 2}}}}, a, b, 2, true)
	b.Regs[1].Prio = 8
	wantShift(t, "facts of nothing", api.Facts{}, a, b, 2, true)
}

// All calls of one module and of its facts, from many goroutines at one time.
func TestManyAskAtOneTime(t *testing.T) {
	m := moduleOf(talk(), []api.Param{theWord, asks(0, 4), asks(1, 0)}, []api.Param{asks(5, 1)})
	f := talkFacts([]api.Slot{word, holds(sends, 7), holds(ended, 0)}, []api.Slot{holds(handsOver, 10)})
	entry := knows(7, 0, word, holds(sends, 7), holds(ended, 0))
	var all sync.WaitGroup
	for range 8 {
		all.Go(func() {
			for range 50 {
				got, e := state.Facts(m)
				if e != api.OK || !facts.Same(got, f) {
					t.Errorf("%v, %d", got, e)
				}
				if s := state.Entry(f, 0); !state.Same(s, entry) || !state.Busy(f, s.Regs[1]) {
					t.Errorf("%v", s)
				}
				if by, is := state.Shift(f, entry, shifted(f, entry, 6)); by != 6 || !is {
					t.Errorf("%d, %v", by, is)
				}
			}
		})
	}
	all.Wait()
}
