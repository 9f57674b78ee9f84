package module_test

import (
	"math"
	"slices"
	"strconv"
	"testing"

	"colloquy/api"
	"colloquy/module"
	"colloquy/modules"
	"colloquy/tables"
)

// numberAt is where a number stands that a module lays, and the greatest one that may be.
type numberAt struct {
	what string
	at   *int
	most int
}

// numbersOf are all numbers that a module lays, but for kinds, marks, how many there are, and what stands in instructions.
func numbersOf(m *api.Module) []numberAt {
	var l []numberAt
	add := func(what string, at *int, most int) { l = append(l, numberAt{what, at, most}) }
	addEdge := func(what string, e *api.Edge) {
		add(what+"'s To", &e.To, 63)
		add(what+"'s Shift", &e.Shift, 1000)
	}
	addType := func(what string, t *api.Type) {
		add(what+"'s Node", &t.Node, 63)
		add(what+"'s Offset", &t.Offset, 1000)
	}
	for i := range m.Nodes {
		n, what := &m.Nodes[i], "the node "+strconv.Itoa(i)
		if n.Kind != api.End && n.Kind != api.Alias {
			add(what+"'s Prio", &n.Prio, 1000)
		}
		if n.IsChan {
			addEdge(what+"'s Pay", &n.Pay)
		}
		for j := range n.Next {
			addEdge(what+"'s Next", &n.Next[j])
		}
	}
	for i := range m.Templates {
		for j := range m.Templates[i].Params {
			if p := &m.Templates[i].Params[j]; p.IsChan {
				addType("the parameter "+strconv.Itoa(j)+" of "+strconv.Itoa(i), &p.Type)
			}
		}
	}
	for i := range m.Chans {
		addType("the channel "+strconv.Itoa(i), &m.Chans[i])
	}
	for i := range m.Starts {
		what := "the start " + strconv.Itoa(i)
		add(what+"'s Template", &m.Starts[i].Template, 15)
		for j := range m.Starts[i].Args {
			if a := &m.Starts[i].Args[j]; a.IsChan {
				add(what+"'s End "+strconv.Itoa(j), &a.End, 31)
			}
		}
	}
	return l
}

// wantEither asks that a module is laid by the chapter's words, or not at all.
func wantEither(t *testing.T, m api.Module, can bool) {
	t.Helper()
	if can {
		wantPut(t, m, bytesOf(m))
	} else {
		wantNoPut(t, m)
	}
}

// P11.1

func TestExamplesOfPut(t *testing.T) {
	wantPut(t, modules.Least(), leastBytes)
	wantPut(t, api.Module{}, head+"\x01\x01\x00"+"\x02\x01\x00"+"\x03\x02\x00\x00")
	m := modules.Least()
	m.Templates[0].Code = nil
	wantNoPut(t, m)
}

func TestAModuleInWhichEverySortOfThingStands(t *testing.T) {
	wantPut(t, every(), everyBytes)
	if s := bytesOf(every()); s != everyBytes {
		t.Errorf("the chapter's words make % x of it", s)
	}
}

func TestAModuleAtItsGreatest(t *testing.T) {
	wantPut(t, full(), bytesOf(full()))
}

func TestListsThatAreEmptyAreLikeNone(t *testing.T) {
	m := api.Module{
		Nodes: []api.Node{}, Templates: []api.Template{}, Chans: []api.Type{}, Starts: []api.Start{},
		NodeAt: []int{}, TemplateAt: []int{}, ChanAt: []int{}, StartAt: []int{},
	}
	wantPut(t, m, bytesOf(api.Module{}))
	m = modules.Least()
	m.Nodes[0].Next = []api.Edge{}
	m.Templates[0].Params = []api.Param{}
	m.Templates[0].At = []int{}
	m.Templates[0].Code[0].L = []int{}
	m.Starts[0].Args = []api.Arg{}
	wantPut(t, m, leastBytes)
	m.Templates[0].Code = []api.Insn{}
	wantNoPut(t, m)
}

func TestEachNumberAtItsEnds(t *testing.T) {
	for _, m := range []api.Module{modules.Least(), every()} {
		bytes := bytesOf(m)
		for _, n := range numbersOf(&m) {
			was := *n.at
			for _, good := range []int{0, 1, n.most - 1, n.most} {
				*n.at = good
				wantPut(t, m, bytesOf(m))
			}
			for _, bad := range append(tables.OddNumbers(), n.most+1, n.most+2, n.most+128, n.most+256) {
				*n.at = bad
				wantNoPut(t, m)
			}
			*n.at = was
			if t.Failed() {
				t.Fatalf("%s was %d", n.what, was)
			}
		}
		wantPut(t, m, bytes)
	}
}

// What a node is by its bytes when all its numbers are at their least and their greatest, worked out by hand.
func TestNumbersThatWereWorkedOut(t *testing.T) {
	low, high := tables.Far(0, 0), tables.Far(63, 1000)
	for bytes, n := range map[string]api.Node{
		"\x00":                                     {},
		"\x05\x00\x00":                             tables.Alias(0, 0),
		"\x05\x3f\xe8\x07":                         tables.Alias(63, 1000),
		"\x01\x00\x00\x00\x00":                     tables.Of(api.Send, 0, low),
		"\x02\x00\x00\x00\x00":                     tables.Of(api.Recv, 0, low),
		"\x01\xe8\x07\x00\x3f\x7f":                 tables.Of(api.Send, 1000, tables.Far(63, 127)),
		"\x02\xe7\x07\x00\x3e\x80\x01":             tables.Of(api.Recv, 999, tables.Far(62, 128)),
		"\x01\x00\x01\x00\x00\x00\x00":             tables.OfEnd(api.Send, 0, low, low),
		"\x02\xe8\x07\x01\x3f\xe8\x07\x3f\xe8\x07": tables.OfEnd(api.Recv, 1000, high, high),
		"\x02\x05\x01\x01\x02\x03\x04":             tables.OfEnd(api.Recv, 5, tables.Far(1, 2), tables.Far(3, 4)),
		"\x03\x00\x01\x00\x00":                     tables.Of(api.Select, 0, low),
		"\x04\xe8\x07\x01\x3f\xe8\x07":             tables.Of(api.Branch, 1000, high),
		"\x03\x09\x02\x01\x02\x03\x04":             tables.Of(api.Select, 9, tables.Far(1, 2), tables.Far(3, 4)),
		"\x04\x01\x08" + "\x3f\x01\x3f\x01\x3f\x01\x3f\x01\x3f\x01\x3f\x01\x3f\x01\x3f\x01": tables.Of(api.Branch, 1, many(tables.Far(63, 1), 8)...),
	} {
		m := api.Module{Nodes: []api.Node{n, n}}
		s := whole([3]string{"\x02" + bytes + bytes, "\x00", "\x00\x00"})
		wantPut(t, m, s)
		wantRead(t, s, placed(m))
	}
}

func TestKinds(t *testing.T) {
	next := func(count int) []api.Edge { return many(tables.Far(1, 2), count) }
	for kind := range 6 {
		one := kind == api.Alias || kind == api.Send || kind == api.Recv
		many := kind == api.Select || kind == api.Branch
		for _, count := range []int{0, 1, 2, 3, 7, 8, 9, 10, 64, 128, 256, 257} {
			can := kind == api.End && count == 0 || one && count == 1 || many && count >= 1 && count <= 8
			wantEither(t, api.Module{Nodes: []api.Node{{Kind: kind, Next: next(count)}}}, can)
			wantEither(t, api.Module{Nodes: []api.Node{{}, {}, {Kind: kind, Next: next(count)}}}, can)
			hands := kind == api.Send || kind == api.Recv
			wantEither(t, api.Module{Nodes: []api.Node{{Kind: kind, IsChan: true, Pay: tables.Far(3, 4), Next: next(count)}}}, can && hands)
			wantEither(t, api.Module{Nodes: []api.Node{{Kind: kind, IsChan: true, Next: next(count)}}}, can && hands)
		}
	}
	for _, kind := range append(tables.OddNumbers(), 6, 7, 127, 128, 256, 257, 261) {
		for _, count := range []int{0, 1, 2} {
			wantNoPut(t, api.Module{Nodes: []api.Node{{Kind: kind, Next: next(count)}}})
			wantNoPut(t, api.Module{Nodes: []api.Node{{}, {Kind: kind, Next: next(count)}}})
			wantNoPut(t, api.Module{Nodes: []api.Node{{Kind: kind, IsChan: true, Pay: tables.Far(3, 4), Next: next(count)}}})
		}
	}
}

// What a node's kind does not have is not laid: it must be zero.
func TestWhatANodeDoesNotLay(t *testing.T) {
	edge := tables.Far(1, 2)
	for _, n := range []api.Node{
		{}, tables.Alias(1, 2), tables.Of(api.Send, 3, edge), tables.Of(api.Recv, 3, edge),
		tables.Of(api.Select, 3, edge), tables.Of(api.Branch, 3, edge, edge),
	} {
		wantPut(t, api.Module{Nodes: []api.Node{n}}, bytesOf(api.Module{Nodes: []api.Node{n}}))
		for _, odd := range append(tables.OddNumbers(), 1, 2, 63) {
			more := n
			if more.Prio = odd; n.Prio == 0 {
				wantNoPut(t, api.Module{Nodes: []api.Node{more}})
			}
			more = n
			more.Pay.To = odd
			wantNoPut(t, api.Module{Nodes: []api.Node{more}})
			more = n
			more.Pay.Shift = odd
			wantNoPut(t, api.Module{Nodes: []api.Node{more}})
		}
		more := n
		if more.IsChan = true; n.Kind != api.Send && n.Kind != api.Recv {
			wantNoPut(t, api.Module{Nodes: []api.Node{more}})
		}
		more = n
		if more.Next = []api.Edge{{}}; n.Kind == api.End {
			wantNoPut(t, api.Module{Nodes: []api.Node{more}})
		}
	}
}

// withParam is a module of one template with a parameter; withArg is one of one start with an argument.
func withParam(p api.Param) api.Module {
	return api.Module{Templates: []api.Template{{Params: []api.Param{{}, p}, Code: []api.Insn{{}}}}}
}

func withArg(a api.Arg) api.Module {
	return api.Module{Starts: []api.Start{{Args: []api.Arg{{}, a}}}}
}

func TestParameters(t *testing.T) {
	laid := func(bytes string) string {
		return whole([3]string{"\x00", "\x01\x02\x00" + bytes + "\x01\x00", "\x00\x00"})
	}
	wantPut(t, withParam(api.Param{}), laid("\x00"))
	for bytes, one := range map[string]api.Type{
		"\x01\x00\x00": {}, "\x01\x05\x00": {Node: 5}, "\x01\x00\x05": {Offset: 5}, "\x01\x3f\xe8\x07": {Node: 63, Offset: 1000}, "\x01\x3e\x80\x01": {Node: 62, Offset: 128},
	} {
		wantPut(t, withParam(api.Param{IsChan: true, Type: one}), laid(bytes))
	}
	for _, odd := range append(tables.OddNumbers(), 1, 63, 64, 1000, 1001) {
		wantNoPut(t, withParam(api.Param{Type: api.Type{Node: odd}}))
		wantNoPut(t, withParam(api.Param{Type: api.Type{Offset: odd}}))
		wantEither(t, withParam(api.Param{IsChan: true, Type: api.Type{Node: odd}}), odd >= 0 && odd <= 63)
		wantEither(t, withParam(api.Param{IsChan: true, Type: api.Type{Offset: odd}}), odd >= 0 && odd <= 1000)
	}
}

func TestArguments(t *testing.T) {
	laid := func(bytes string) string { return whole([3]string{"\x00", "\x00", "\x00\x01\x00\x02\x00\x00" + bytes}) }
	for bytes, word := range map[string]int64{
		"\x00\x00": 0, "\x00\x01": -1, "\x00\x02": 1, "\x00\x7f": -64, "\x00\x80\x01": 64, "\x00\x0a": 5,
		"\x00\xfe\xff\xff\xff\xff\xff\xff\xff\xff\x01": math.MaxInt64, "\x00\xff\xff\xff\xff\xff\xff\xff\xff\xff\x01": math.MinInt64,
	} {
		wantPut(t, withArg(api.Arg{Word: word}), laid(bytes))
		wantEither(t, withArg(api.Arg{IsChan: true, End: 1, Word: word}), word == 0)
	}
	for bytes, end := range map[string]int{"\x01\x00": 0, "\x01\x01": 1, "\x01\x1e": 30, "\x01\x1f": 31} {
		wantPut(t, withArg(api.Arg{IsChan: true, End: end}), laid(bytes))
	}
	for _, odd := range append(tables.OddNumbers(), 1, 31, 32, 33, 64) {
		wantNoPut(t, withArg(api.Arg{End: odd}))
		wantNoPut(t, withArg(api.Arg{Word: 7, End: odd}))
		wantEither(t, withArg(api.Arg{IsChan: true, End: odd}), odd >= 0 && odd <= 31)
	}
}

// lists are modules in which one list has so many things; the most that may be, and the least.
func lists(count int) map[string]api.Module {
	return map[string]api.Module{
		"nodes":      {Nodes: many(api.Node{}, count)},
		"select":     {Nodes: []api.Node{{Kind: api.Select, Next: many(api.Edge{}, count)}}},
		"branch":     {Nodes: []api.Node{{Kind: api.Branch, Next: many(api.Edge{}, count)}}},
		"templates":  {Templates: many(api.Template{Code: []api.Insn{{}}}, count)},
		"parameters": {Templates: []api.Template{{Params: many(api.Param{}, count), Code: []api.Insn{{}}}}},
		"code":       {Templates: []api.Template{{Code: many(api.Insn{}, count)}}},
		"channels":   {Chans: many(api.Type{}, count)},
		"starts":     {Starts: many(api.Start{}, count)},
		"arguments":  {Starts: []api.Start{{Args: many(api.Arg{}, count)}}},
	}
}

func TestHowManyOfEachThing(t *testing.T) {
	most := map[string]int{"nodes": 64, "select": 8, "branch": 8, "templates": 16, "parameters": 8, "code": 128, "channels": 16, "starts": 8, "arguments": 8}
	for _, count := range []int{0, 1, 2, 7, 8, 9, 15, 16, 17, 63, 64, 65, 127, 128, 129, 130, 255, 256, 257, 1000, 1 << 16, 1<<16 + 1} {
		for what, m := range lists(count) {
			needsOne := what == "select" || what == "branch" || what == "code"
			can := count <= most[what] && (count > 0 || !needsOne)
			s, e := module.Put(m)
			if can && (e != api.OK || s != bytesOf(m)) || !can && (e != api.ErrArg || s != "") {
				t.Errorf("%d %s: %d, % x", count, what, e, s[:min(len(s), 100)])
			}
		}
	}
}

// withCode is a module of one template, with an instruction behind another one.
func withCode(x api.Insn) api.Module {
	return api.Module{Templates: []api.Template{{Code: []api.Insn{{}, x}}}}
}

func TestInstructionsOfEachOp(t *testing.T) {
	ops := map[int]int{}
	for _, x := range eachOp() {
		ops[x.Op]++
		wantPut(t, withCode(x), bytesOf(withCode(x)))
		if x.Op != api.OpNop {
			x.B = 77
			wantNoPut(t, withCode(x))
		}
	}
	if len(ops) != 25 {
		t.Errorf("the ops are %v", ops)
	}
}

func TestInstructionsThatMayNotBe(t *testing.T) {
	for _, x := range []api.Insn{
		{Op: 25}, {Op: -1}, {Op: 256}, {Op: math.MaxInt}, {Op: math.MinInt},
		{Op: api.OpNop, A: 1}, {Op: api.OpHalt, L: []int{0}}, {Op: api.OpGet, B: 16}, {Op: api.OpPut, B: -1},
		{Op: api.OpGive, B: 1, C: 1}, {Op: api.OpMove}, {Op: api.OpSelect, C: 8}, {Op: api.OpJump}, {Op: api.OpJz, L: []int{128}}, {Op: api.OpJump, L: []int{0, 1}},
		{Op: api.OpBranch}, {Op: api.OpBranch, L: many(0, 9)}, {Op: api.OpNew, B: 64, L: []int{0, 1}}, {Op: api.OpNew, D: 1001, L: []int{0, 1}}, {Op: api.OpNew, L: []int{2, 2}},
		{Op: api.OpSpawn, B: 16}, {Op: api.OpSpawn, L: []int{4, 5, 4}}, {Op: api.OpSpawn, D: 1},
	} {
		wantNoPut(t, withCode(x))
		m := every()
		for i := range m.Templates {
			m := modules.Roomy(m)
			m.Templates[i].Code[0] = x
			wantNoPut(t, m)
			m = modules.Roomy(every())
			m.Templates[i].Code = append(m.Templates[i].Code, x)
			wantNoPut(t, m)
		}
	}
}

// Where things stand counts for nothing, whatever is told of it.
func TestWhereThingsStandCountsForNothing(t *testing.T) {
	for _, at := range [][]int{nil, {}, {0}, {-1, 7}, tables.OddNumbers(), many(5, 1000)} {
		m := every()
		m.NodeAt, m.TemplateAt, m.ChanAt, m.StartAt = at, at, at, at
		for i := range m.Templates {
			m.Templates[i].At = at
		}
		wantPut(t, m, everyBytes)
		wantPut(t, api.Module{NodeAt: at, TemplateAt: at, ChanAt: at, StartAt: at}, bytesOf(api.Module{}))
		m.Starts[1].Template = 16
		wantNoPut(t, m)
	}
}

// What one part names need not be there: whether parts fit together is not asked.
func TestPartsThatDoNotFitTogether(t *testing.T) {
	for _, m := range []api.Module{
		{Nodes: []api.Node{tables.Alias(63, 0)}},
		{Nodes: []api.Node{tables.Alias(0, 0)}},
		{Chans: []api.Type{{Node: 9}}},
		{Starts: []api.Start{{Template: 15, Args: []api.Arg{{IsChan: true, End: 31}, {IsChan: true, End: 31}}}}},
		withCode(api.Insn{Op: api.OpSpawn, B: 15, L: []int{0}}),
		withCode(api.Insn{Op: api.OpNew, B: 63, L: []int{0, 1}}),
		withCode(api.Insn{Op: api.OpJump, L: []int{127}}),
	} {
		wantPut(t, m, bytesOf(m))
		wantRead(t, bytesOf(m), placed(m))
	}
}

// canBeLaid tells whether a module can be laid, by the chapter's words.
func canBeLaid(m api.Module) bool {
	can := len(m.Nodes) <= 64 && len(m.Templates) <= 16 && len(m.Chans) <= 16 && len(m.Starts) <= 8
	ask := func(is bool) { can = can && is }
	number := func(n, most int) { ask(n >= 0 && n <= most) }
	edge := func(e api.Edge) { number(e.To, 63); number(e.Shift, 1000) }
	typeOf := func(t api.Type) { number(t.Node, 63); number(t.Offset, 1000) }
	for _, n := range m.Nodes {
		for _, e := range n.Next {
			edge(e)
		}
		if edge(n.Pay); !n.IsChan {
			ask(n.Pay == api.Edge{})
		}
		switch number(n.Prio, 1000); n.Kind {
		case api.Send, api.Recv:
			ask(len(n.Next) == 1)
		case api.Select, api.Branch:
			ask(!n.IsChan && len(n.Next) > 0 && len(n.Next) <= 8)
		case api.Alias:
			ask(!n.IsChan && n.Prio == 0 && len(n.Next) == 1)
		case api.End:
			ask(!n.IsChan && n.Prio == 0 && len(n.Next) == 0)
		default:
			ask(false)
		}
	}
	for _, one := range m.Templates {
		ask(len(one.Params) <= 8 && len(one.Code) > 0 && len(one.Code) <= 128)
		for _, p := range one.Params {
			typeOf(p.Type)
			ask(p.IsChan || p.Type == api.Type{})
		}
		for _, x := range one.Code {
			ask(mayBe(x))
		}
	}
	for _, one := range m.Chans {
		typeOf(one)
	}
	for _, s := range m.Starts {
		number(s.Template, 15)
		ask(len(s.Args) <= 8)
		for _, a := range s.Args {
			number(a.End, 31)
			ask(a.IsChan && a.Word == 0 || !a.IsChan && a.End == 0)
		}
	}
	return can
}

// mayBe tells of an instruction of those that mixed modules hold, and those that are changed in them, whether it may be.
func mayBe(x api.Insn) bool {
	return x.Op >= 0 && x.Op <= 24 && x.D >= 0 && x.C >= 0 && x.B >= 0 && x.B <= 63
}

// change makes one number of a module, or a list, another one.
func change(r *tables.Row, m *api.Module) {
	odd := func(most int) int { return []int{-1, 0, 1, most, most + 1, math.MinInt}[r.Below(6)] }
	switch r.Below(8) {
	case 0, 1, 2:
		if l := numbersOf(m); len(l) > 0 {
			n := l[r.Below(len(l))]
			*n.at = odd(n.most)
		}
	case 3, 4:
		if len(m.Nodes) > 0 {
			changeNode(r, &m.Nodes[r.Below(len(m.Nodes))], odd)
		}
	case 5:
		if len(m.Templates) > 0 {
			changeTemplate(r, &m.Templates[r.Below(len(m.Templates))], odd)
		}
	case 6:
		if len(m.Starts) > 0 {
			s := &m.Starts[r.Below(len(m.Starts))]
			s.Args = append(s.Args, api.Arg{IsChan: r.Below(2) == 0, Word: int64(r.Below(2)), End: odd(31)})
		}
	case 7:
		m.Chans = append(m.Chans, api.Type{Node: odd(63), Offset: odd(1000)})
	}
}

func changeNode(r *tables.Row, n *api.Node, odd func(most int) int) {
	switch r.Below(5) {
	case 0:
		n.Kind = odd(5)
	case 1:
		n.Prio = odd(1000)
	case 2:
		n.IsChan = !n.IsChan
	case 3:
		n.Pay = tables.Far(odd(63), odd(1000))
	case 4:
		n.Next = slices.Concat(n.Next, many(tables.Far(1, 2), 1+r.Below(9)))[r.Below(2):]
	}
}

func changeTemplate(r *tables.Row, one *api.Template, odd func(most int) int) {
	switch r.Below(3) {
	case 0:
		one.Params = append(one.Params, api.Param{IsChan: r.Below(2) == 0, Type: api.Type{Node: odd(63), Offset: odd(1000)}})
	case 1:
		one.Code = one.Code[min(1, len(one.Code)):]
	case 2:
		one.Code = append(one.Code, []api.Insn{{Op: 25}, {Op: api.OpGet, B: -1}, {Op: api.OpSpawn, D: -1}, {Op: api.OpNop}}[r.Below(4)])
	}
}

func TestManyModulesThatWereChanged(t *testing.T) {
	row, laid := tables.Row(12), 0
	for range 20000 {
		m := mixed(&row, 3)
		for range 1 + row.Below(2) {
			change(&row, &m)
		}
		can := canBeLaid(m)
		if can {
			laid++
		}
		if wantEither(t, m, can); t.Failed() {
			t.Fatal(m)
		}
	}
	if laid < 3000 || laid > 17000 {
		t.Errorf("%d of them can be laid", laid)
	}
}

// What is wrong is found wherever it stands: in the last thing of each list as in the first one.
func TestTheLastThingOfEachList(t *testing.T) {
	for what, spoil := range map[string]func(m *api.Module){
		"node":        func(m *api.Module) { m.Nodes[63].Next[0].Shift = 1001 },
		"edge":        func(m *api.Module) { m.Nodes[61].Next[7].To = 64 },
		"handed over": func(m *api.Module) { m.Nodes[62].Pay.To = 64 },
		"parameter":   func(m *api.Module) { m.Templates[15].Params[7].Type.Offset = 1001 },
		"instruction": func(m *api.Module) { m.Templates[15].Code[127].L[7] = 128 },
		"channel":     func(m *api.Module) { m.Chans[15].Node = 64 },
		"start":       func(m *api.Module) { m.Starts[7].Template = 16 },
		"argument":    func(m *api.Module) { m.Starts[7].Args[7].End = 1 },
	} {
		m := modules.Roomy(full())
		spoil(&m)
		if s, e := module.Put(m); s != "" || e != api.ErrArg {
			t.Errorf("%s: %d, %d bytes", what, e, len(s))
		}
	}
}
