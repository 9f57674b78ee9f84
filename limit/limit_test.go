package limit_test

import (
	"errors"
	"math"
	"slices"
	"strconv"
	"testing"

	"colloquy/api"
	"colloquy/faults"
	"colloquy/limit"
	"colloquy/module"
	"colloquy/modules"
	"colloquy/tables"
)

// wantFault asks for a fault, again also where the first one was changed, and that the module stays as it was.
func wantFault(t *testing.T, m api.Module, code api.Errno, at int) {
	t.Helper()
	given, was := modules.Roomy(m), modules.Roomy(m)
	for range 2 {
		err := limit.Check(given)
		if wrong := faults.Unlike(err, code, at); wrong != "" {
			t.Errorf("Check of %v: %s", m, wrong)
		}
		var f *api.Fault
		if errors.As(err, &f) {
			*f = api.Fault{Code: -1, At: -1}
		}
	}
	wantKept(t, given, was)
}

// wantFit asks that nothing is told of a module, and that it stays as it was.
func wantFit(t *testing.T, m api.Module) {
	t.Helper()
	given, was := modules.Roomy(m), modules.Roomy(m)
	for range 2 {
		if err := limit.Check(given); err != nil {
			t.Errorf("Check of %v: %v", m, told(err))
		}
	}
	wantKept(t, given, was)
}

// wantCode asks for a fault, or for none, if the number is OK.
func wantCode(t *testing.T, m api.Module, code api.Errno, at int) {
	t.Helper()
	if code == api.OK {
		wantFit(t, m)
		return
	}
	wantFault(t, m, code, at)
}

// wantKept asks that a module that was handed in, a copy by modules.Roomy, is as it was, and so is the room behind its lists.
func wantKept(t *testing.T, given, was api.Module) {
	t.Helper()
	if !modules.Same(given, was) || !modules.IsRoomEmpty(given) {
		t.Errorf("%v was handed in, and is %v now, with the room behind it", was, given)
	}
}

// told is a fault as numbers.
func told(err error) string {
	var f *api.Fault
	if !errors.As(err, &f) {
		return err.Error()
	}
	return strconv.Itoa(int(f.Code)) + " at " + strconv.Itoa(f.At)
}

// bare is the module of one End, and of one template of a halt.
func bare() api.Module {
	m := modules.Least()
	m.Starts = nil
	return m
}

// eachOp is a code with an instruction of each op, in which control goes on as it must, that makes a channel of the node 2, and spawns the template 0.
func eachOp() []api.Insn {
	return []api.Insn{
		{Op: api.OpNop}, {Op: api.OpPush, A: 300}, {Op: api.OpPop}, {Op: api.OpDup}, {Op: api.OpAdd}, {Op: api.OpSub}, {Op: api.OpMul}, {Op: api.OpEq}, {Op: api.OpLt},
		{Op: api.OpGet, B: 3}, {Op: api.OpPut, B: 15}, {Op: api.OpOut}, {Op: api.OpSend, B: 1}, {Op: api.OpRecv, B: 2}, {Op: api.OpGive, B: 1, C: 2}, {Op: api.OpTake, B: 3, C: 4},
		{Op: api.OpSelect, B: 1, C: 7}, {Op: api.OpNew, B: 2, D: 300, L: []int{0, 1}}, {Op: api.OpSpawn, L: []int{4, 5}}, {Op: api.OpClose, B: 9}, {Op: api.OpMove, B: 5, C: 6},
		{Op: api.OpJz, L: []int{23}}, {Op: api.OpBranch, L: []int{23, 0}}, {Op: api.OpJump, L: []int{24}}, {Op: api.OpHalt},
	}
}

// Where instructions of eachOp stand in it.
const (
	newAt    = 17
	spawnAt  = 18
	moveAt   = 20
	jzAt     = 21
	jumpAt   = 23
	haltAt   = 24
	everyOps = 25
)

// either is yes, if something is so, else no.
func either[T any](isSo bool, yes, no T) T {
	if isSo {
		return yes
	}
	return no
}

// rising are so many numbers, one by one, from the first one on.
func rising(first, count int) []int {
	var l []int
	for i := range count {
		l = append(l, first+i)
	}
	return l
}

// every is a module that fits, in which every sort of thing stands, each at a place of its own.
func every() api.Module {
	word := api.Param{}
	end := func(node, offset int) api.Param {
		return api.Param{IsChan: true, Type: api.Type{Node: node, Offset: offset}}
	}
	return api.Module{
		Nodes: []api.Node{
			{Kind: api.End},
			tables.Of(api.Send, 0, tables.Far(2, 0)),
			tables.Of(api.Recv, 1, tables.Far(1, 2)),
			tables.Of(api.Select, 0, tables.Far(0, 0), tables.Far(1, 1)),
			tables.Alias(3, 5),
			tables.OfEnd(api.Send, 3, tables.Far(1, 10), tables.Far(0, 0)),
			tables.Of(api.Branch, 1000, tables.Far(4, 1000), tables.Far(0, 7)),
			tables.OfEnd(api.Recv, 2, tables.Far(5, 0), tables.Far(4, 0)),
		},
		Templates: []api.Template{
			{
				Params: []api.Param{word, end(1, 1000)},
				Code:   []api.Insn{{Op: api.OpPush, A: -2}, {Op: api.OpSend, B: 1}, {Op: api.OpHalt}},
				At:     rising(301, 3),
			},
			{Params: []api.Param{end(7, 0), word, end(4, 3), word}, Code: eachOp(), At: rising(401, everyOps)},
			{Code: []api.Insn{{Op: api.OpSpawn, B: 2}, {Op: api.OpHalt}}, At: rising(501, 2)},
			{Params: []api.Param{word}, Code: []api.Insn{{Op: api.OpHalt}}, At: rising(511, 1)},
		},
		Chans: []api.Type{{Node: 1}, {Node: 4, Offset: 1000}, {Node: 7, Offset: 5}},
		Starts: []api.Start{
			{Args: []api.Arg{{Word: 5}, {IsChan: true, End: 3}}},
			{Template: 1, Args: []api.Arg{{IsChan: true, End: 0}, {Word: -1}, {IsChan: true, End: 5}, {}}},
			{Template: 2},
			{Args: []api.Arg{{Word: math.MaxInt64}, {IsChan: true, End: 1}}},
			{Template: 1, Args: []api.Arg{{IsChan: true, End: 4}, {Word: math.MinInt64}, {IsChan: true, End: 2}, {Word: 9}}},
		},
		NodeAt:     rising(101, 8),
		TemplateAt: rising(201, 4),
		ChanAt:     rising(601, 3),
		StartAt:    rising(701, 5),
	}
}

// wrong is a row of the chapter's table, or a part of it, that is so behind a change of every; and what is told of it.
type wrong struct {
	row    string
	change func(m *api.Module)
	code   api.Errno
	at     int
}

// wrongs are the rows of the chapter's table, in order: where two of them are so, the one that stands ahead is told.
func wrongs() []wrong {
	return slices.Concat(wrongNodes(), wrongTemplates(), wrongCodes(), wrongBoots())
}

func wrongNodes() []wrong {
	return []wrong{
		{"more than 64 nodes", func(m *api.Module) { m.Nodes = append(m.Nodes, make([]api.Node, 57)...) }, api.ErrLong, 0},
		{"a node without its shape", func(m *api.Module) { m.Nodes[3].Prio = -1 }, api.ErrKind, 104},
		{"an edge that leads out", func(m *api.Module) { m.Nodes[5].Next[0].To = 99 }, api.ErrOpen, 106},
		{"an alias of itself", func(m *api.Module) { m.Nodes[4].Next[0].To = 4 }, api.ErrAlias, 105},
		{"an edge that does not rise", func(m *api.Module) { m.Nodes[2].Next[0].Shift = 1 }, api.ErrOrder, 103},
	}
}

func wrongTemplates() []wrong {
	params := func(count int) []api.Param { return make([]api.Param, count) }
	return []wrong{
		{"no templates", func(m *api.Module) { m.Templates = nil }, api.ErrArg, 0},
		{"more than 16 templates", func(m *api.Module) { m.Templates = append(m.Templates, make([]api.Template, 13)...) }, api.ErrLong, 0},
		{"more than 8 parameters of the template 0", func(m *api.Module) { m.Templates[0].Params = append(m.Templates[0].Params, params(7)...) }, api.ErrLong, 201},
		{"a parameter 0 of 0 that is a word with a type", func(m *api.Module) { m.Templates[0].Params[0].Type.Node = 1 }, api.ErrArg, 201},
		{"a parameter 1 of 0 whose node is not there", func(m *api.Module) { m.Templates[0].Params[1].Type.Node = 8 }, api.ErrOpen, 201},
		{"an instruction of 0 that may not be", func(m *api.Module) { m.Templates[0].Code[1].B = 16 }, api.ErrArg, 302},
		{"a code of 0 that leads out", func(m *api.Module) { m.Templates[0].Code[2].Op = api.OpPop }, api.ErrJump, 303},
		{"more than 8 parameters of the template 1", func(m *api.Module) { m.Templates[1].Params = append(m.Templates[1].Params, params(5)...) }, api.ErrLong, 202},
		{"a parameter 0 of 1 whose node is not there", func(m *api.Module) { m.Templates[1].Params[0].Type.Node = 8 }, api.ErrOpen, 202},
		{"a parameter 0 of 1 with an offset that may not be", func(m *api.Module) { m.Templates[1].Params[0].Type.Offset = 1001 }, api.ErrArg, 202},
		{"a parameter 1 of 1 that is a word with a type", func(m *api.Module) { m.Templates[1].Params[1].Type.Offset = 1 }, api.ErrArg, 202},
		{"a parameter 2 of 1 whose node is not there", func(m *api.Module) { m.Templates[1].Params[2].Type.Node = -1 }, api.ErrOpen, 202},
	}
}

func wrongCodes() []wrong {
	code := func(m *api.Module) []api.Insn { return m.Templates[1].Code }
	return []wrong{
		{"a pop with a register", func(m *api.Module) { code(m)[2].B = 1 }, api.ErrArg, 403},
		{"a new that may not be", func(m *api.Module) { code(m)[newAt].D = 1001 }, api.ErrArg, 401 + newAt},
		{"a new whose node is not there", func(m *api.Module) { code(m)[newAt].B = 8 }, api.ErrOpen, 401 + newAt},
		{"a spawn that may not be", func(m *api.Module) { code(m)[spawnAt].C = 1 }, api.ErrArg, 401 + spawnAt},
		{"a spawn whose template is not there", func(m *api.Module) { code(m)[spawnAt].B = 4 }, api.ErrOpen, 401 + spawnAt},
		{"a spawn with too many registers", func(m *api.Module) { code(m)[spawnAt].L = []int{4, 5, 6} }, api.ErrArg, 401 + spawnAt},
		{"an op that is none", func(m *api.Module) { code(m)[haltAt].Op = 25 }, api.ErrOp, 401 + haltAt},
		{"a jump that leads out", func(m *api.Module) { code(m)[jumpAt].L = []int{25} }, api.ErrJump, 401 + jumpAt},
		{"a block that is not reached", func(m *api.Module) { code(m)[moveAt] = api.Insn{Op: api.OpHalt} }, api.ErrDead, 401 + jzAt},
		{"a silent round", func(m *api.Module) { code(m)[jzAt].L = []int{jzAt} }, api.ErrSilent, 401 + jzAt},
		{"more than 8 parameters of the template 2", func(m *api.Module) { m.Templates[2].Params = make([]api.Param, 9) }, api.ErrLong, 203},
		{"a spawn of 2 that may not be", func(m *api.Module) { m.Templates[2].Code[0].A = 1 }, api.ErrArg, 501},
		{"a spawn of 2 with too few registers", func(m *api.Module) { m.Templates[2].Params = make([]api.Param, 1) }, api.ErrArg, 501},
		{"a code of 3 without instructions", func(m *api.Module) { m.Templates[3].Code = nil }, api.ErrArg, 204},
	}
}

func wrongBoots() []wrong {
	arg := func(m *api.Module, start, i int) *api.Arg { return &m.Starts[start].Args[i] }
	return []wrong{
		{"more than 16 channels", func(m *api.Module) { m.Chans = append(m.Chans, make([]api.Type, 14)...) }, api.ErrLong, 0},
		{"a channel 0 whose node is not there", func(m *api.Module) { m.Chans[0].Node = 8 }, api.ErrOpen, 601},
		{"a channel 0 with an offset that may not be", func(m *api.Module) { m.Chans[0].Offset = -1 }, api.ErrArg, 601},
		{"a channel 2 with an offset that may not be", func(m *api.Module) { m.Chans[2].Offset = 1001 }, api.ErrArg, 603},
		{"more than 8 starts", func(m *api.Module) { m.Starts = append(m.Starts, make([]api.Start, 4)...) }, api.ErrLong, 0},
		{"a start 0 whose template is not there", func(m *api.Module) { m.Starts[0].Template = 4 }, api.ErrOpen, 701},
		{"a start 0 with too many arguments", func(m *api.Module) { m.Starts[0].Args = append(m.Starts[0].Args, api.Arg{}) }, api.ErrArg, 701},
		{"an endpoint where a word is asked for", func(m *api.Module) { arg(m, 0, 0).IsChan = true }, api.ErrBoot, 701},
		{"a word with an End", func(m *api.Module) { arg(m, 0, 0).End = 1 }, api.ErrArg, 701},
		{"a word where an endpoint is asked for", func(m *api.Module) { arg(m, 0, 1).IsChan = false }, api.ErrBoot, 701},
		{"an endpoint that is not there", func(m *api.Module) { arg(m, 0, 1).End = -1 }, api.ErrArg, 701},
		{"a start 1 whose template is not there", func(m *api.Module) { m.Starts[1].Template = -1 }, api.ErrOpen, 702},
		{"a start 1 with too few arguments", func(m *api.Module) { m.Starts[1].Args = m.Starts[1].Args[:3] }, api.ErrArg, 702},
		{"an endpoint with a Word", func(m *api.Module) { arg(m, 1, 0).Word = 1 }, api.ErrArg, 702},
		{"an endpoint of another start", func(m *api.Module) { arg(m, 1, 0).End = 3 }, api.ErrUsed, 702},
		{"a word where an endpoint is asked for, behind it", func(m *api.Module) { arg(m, 1, 2).IsChan = false }, api.ErrBoot, 702},
		{"a word with an End, in the last start", func(m *api.Module) { arg(m, 4, 1).End = -1 }, api.ErrArg, 705},
		{"an endpoint of the same start", func(m *api.Module) { arg(m, 4, 2).End = 4 }, api.ErrUsed, 705},
		{"endpoints that are no arguments", func(m *api.Module) { m.Chans = append(m.Chans, api.Type{}) }, api.ErrBoot, 0},
	}
}

// P12.1

func TestExamples(t *testing.T) {
	m := bare()
	wantFit(t, m)
	m.Chans = []api.Type{{}}
	wantFault(t, m, api.ErrBoot, 0)
	m.ChanAt = []int{33}
	wantFault(t, m, api.ErrBoot, 0)
	m = modules.Least()
	wantFit(t, m)
	m.Starts[0].Args = []api.Arg{{}}
	wantFault(t, m, api.ErrArg, 0)
	m.StartAt = []int{19}
	wantFault(t, m, api.ErrArg, 19)
	m.Nodes = nil
	m.NodeAt = []int{8}
	wantFault(t, m, api.ErrArg, 0)
	wantFault(t, api.Module{}, api.ErrArg, 0)
}

func TestAModuleInWhichEverySortOfThingStands(t *testing.T) {
	wantFit(t, every())
}

func TestEachRowByItself(t *testing.T) {
	for _, w := range wrongs() {
		m := every()
		w.change(&m)
		wantFault(t, m, w.code, w.at)
		if t.Failed() {
			t.Fatal(w.row)
		}
	}
}

func TestTheFirstOfTwoRows(t *testing.T) {
	all := wrongs()
	for i, first := range all {
		for _, second := range all[i+1:] {
			m := every()
			second.change(&m)
			first.change(&m)
			wantFault(t, m, first.code, first.at)
			if t.Failed() {
				t.Fatalf("%s; %s", first.row, second.row)
			}
		}
	}
}

func TestTheFirstOfAllRows(t *testing.T) {
	all := wrongs()
	for i, first := range all {
		m := every()
		for j := len(all) - 1; j >= i; j-- {
			all[j].change(&m)
		}
		wantFault(t, m, first.code, first.at)
		if t.Failed() {
			t.Fatal(first.row)
		}
	}
}

// placesOf are all lists of places of a module.
func placesOf(m *api.Module) []*[]int {
	l := []*[]int{&m.NodeAt, &m.TemplateAt, &m.ChanAt, &m.StartAt}
	for i := range m.Templates {
		l = append(l, &m.Templates[i].At)
	}
	return l
}

// Where a list of places is not as long, 0 is told; any number that stands there is told as it is.
func TestPlacesThatAreMissing(t *testing.T) {
	for _, w := range wrongs() {
		m := every()
		w.change(&m)
		for _, places := range placesOf(&m) {
			was := *places
			i := slices.Index(was, w.at)
			for cut := range len(was) + 1 {
				at := w.at
				if i >= cut {
					at = 0
				}
				*places = was[:cut:cut]
				wantFault(t, m, w.code, at)
			}
			*places = nil
			if i >= 0 {
				wantFault(t, m, w.code, 0)
			}
			*places = append(slices.Clone(was), -5, 1<<40)
			wantFault(t, m, w.code, w.at)
			if i >= 0 {
				for _, odd := range append(tables.OddNumbers(), 0, 1) {
					(*places)[i] = odd
					wantFault(t, m, w.code, odd)
				}
			}
			*places = was
		}
		if t.Failed() {
			t.Fatal(w.row)
		}
	}
}

// Without places all is told as ever, but at 0.
func TestAModuleThatWasNotRead(t *testing.T) {
	forget := func(m *api.Module) {
		for _, places := range placesOf(m) {
			*places = nil
		}
	}
	m := every()
	forget(&m)
	wantFit(t, m)
	for _, w := range wrongs() {
		m := every()
		w.change(&m)
		forget(&m)
		wantFault(t, m, w.code, 0)
		if t.Failed() {
			t.Fatal(w.row)
		}
	}
}

func TestListsThatAreEmptyAreLikeNone(t *testing.T) {
	m := bare()
	m.Chans, m.Starts, m.NodeAt, m.TemplateAt, m.ChanAt, m.StartAt = []api.Type{}, []api.Start{}, []int{}, []int{}, []int{}, []int{}
	m.Nodes[0].Next = []api.Edge{}
	m.Templates[0].Params, m.Templates[0].At, m.Templates[0].Code[0].L = []api.Param{}, []int{}, []int{}
	wantFit(t, m)
	m.Starts = []api.Start{{Args: []api.Arg{}}}
	wantFit(t, m)
	m.Templates[0].Code = []api.Insn{}
	wantFault(t, m, api.ErrArg, 0)
	m.Templates = []api.Template{}
	wantFault(t, m, api.ErrArg, 0)
	m.Nodes = []api.Node{}
	wantFault(t, m, api.ErrArg, 0)
}

// number is one of every that names something, or may be just so great; and what is told where it is another one.
type number struct {
	what   string
	at     *int
	isGood func(n int) bool
	code   func(n int) api.Errno // where it is not good
	place  int
}

// numbersOf are the numbers of every, but for those of nodes, and of instructions other than new and spawn.
func numbersOf(m *api.Module) []number {
	below := func(most int) func(int) bool { return func(n int) bool { return 0 <= n && n <= most } }
	always := func(e api.Errno) func(int) api.Errno { return func(int) api.Errno { return e } }
	var l []number
	addType := func(what string, t *api.Type, place int) {
		l = append(l, number{what + "'s Node", &t.Node, below(7), always(api.ErrOpen), place})
		l = append(l, number{what + "'s Offset", &t.Offset, below(1000), always(api.ErrArg), place})
	}
	for i := range m.Templates {
		for j := range m.Templates[i].Params {
			p, what := &m.Templates[i].Params[j], "the parameter "+strconv.Itoa(j)+" of "+strconv.Itoa(i)
			if p.IsChan {
				addType(what, &p.Type, 201+i)
				continue
			}
			l = append(l, number{what + ", a word, its Node", &p.Type.Node, below(0), always(api.ErrArg), 201 + i})
			l = append(l, number{what + ", a word, its Offset", &p.Type.Offset, below(0), always(api.ErrArg), 201 + i})
		}
	}
	for i := range m.Chans {
		addType("the channel "+strconv.Itoa(i), &m.Chans[i], 601+i)
	}
	// Above what an instruction may name insn's error is told.
	named := func(most int) func(int) api.Errno {
		return func(n int) api.Errno {
			if 0 <= n && n <= most {
				return api.ErrOpen
			}
			return api.ErrArg
		}
	}
	code := m.Templates[1].Code
	l = append(l, number{"the new's node", &code[newAt].B, below(7), named(63), 401 + newAt})
	l = append(l, number{"the new's shift", &code[newAt].D, below(1000), always(api.ErrArg), 401 + newAt})
	spawned := func(n int) api.Errno {
		if 1 <= n && n <= 3 {
			return api.ErrArg // of 4 parameters, of none, and of 1
		}
		return named(15)(n)
	}
	l = append(l, number{"the spawn's template", &code[spawnAt].B, below(0), spawned, 401 + spawnAt})
	for i := range m.Starts {
		l = append(l, numbersOfStart(m, i)...)
	}
	return l
}

// numbersOfStart are those of a start.
func numbersOfStart(m *api.Module, i int) []number {
	s, what := &m.Starts[i], "the start "+strconv.Itoa(i)
	same := func(was int) func(int) bool { return func(n int) bool { return n == was } }
	template := func(n int) api.Errno {
		if 0 <= n && n <= 3 {
			return api.ErrArg // as many parameters as this has arguments has none of the others
		}
		return api.ErrOpen
	}
	l := []number{{what + "'s template", &s.Template, same(s.Template), template, 701 + i}}
	for j := range s.Args {
		a, which := &s.Args[j], what+"'s argument "+strconv.Itoa(j)
		if a.IsChan {
			// Where it is that of another argument, this one or that one is told, as an endpoint that was one before.
			end := func(n int) api.Errno {
				if 0 <= n && n <= 5 {
					return api.ErrUsed
				}
				return api.ErrArg
			}
			l = append(l, number{which + "'s End", &a.End, same(a.End), end, 701 + i})
			continue
		}
		l = append(l, number{which + ", a word, its End", &a.End, same(0), func(int) api.Errno { return api.ErrArg }, 701 + i})
	}
	return l
}

func TestEachNumberAtItsEnds(t *testing.T) {
	m := every()
	for _, n := range numbersOf(&m) {
		was := *n.at
		for _, other := range slices.Concat(tables.OddNumbers(), rising(-3, 20), rising(60, 10), rising(126, 5), rising(254, 5), rising(998, 6)) {
			*n.at = other
			switch {
			case n.isGood(other):
				wantFit(t, m)
			case n.code(other) == api.ErrUsed:
				wantFault(t, m, api.ErrUsed, max(n.place, placeOfEnd(other)))
			default:
				wantFault(t, m, n.code(other), n.place)
			}
		}
		*n.at = was
		if t.Failed() {
			t.Fatal(n.what)
		}
	}
	wantFit(t, m)
}

// placeOfEnd is where the start stands that every hands an endpoint to.
func placeOfEnd(end int) int {
	return []int{702, 704, 705, 701, 705, 702}[end]
}

func TestHowManyTemplates(t *testing.T) {
	for _, count := range []int{0, 1, 2, 15, 16, 17, 18, 32, 100, 256, 257, 1 << 16} {
		m := bare()
		m.Templates = slices.Repeat(m.Templates, count)
		m.TemplateAt = rising(50, count)
		switch {
		case count == 0:
			wantFault(t, m, api.ErrArg, 0)
		case count > 16:
			wantFault(t, m, api.ErrLong, 0)
		default:
			wantFit(t, m)
			// The last one can be spawned, and started.
			m.Templates[0].Code = []api.Insn{{Op: api.OpSpawn, B: count - 1}, {Op: api.OpHalt}}
			m.Starts = []api.Start{{Template: count - 1}}
			wantFit(t, m)
			m.Starts[0].Template = count
			wantFault(t, m, api.ErrOpen, 0)
			m.Templates[0].Code[0].B = count
			m.Templates[0].At = []int{90, 91}
			wantCode(t, m, either(count < 16, api.ErrOpen, api.ErrArg), 90)
		}
	}
}

func TestHowManyParameters(t *testing.T) {
	for _, count := range []int{0, 1, 2, 7, 8, 9, 10, 16, 100, 256, 257, 264, 1 << 16} {
		for _, last := range []api.Param{{}, {IsChan: true}} {
			m := bare()
			m.Templates = append(m.Templates, api.Template{Params: slices.Repeat([]api.Param{last}, count), Code: m.Templates[0].Code})
			m.TemplateAt = []int{40, 41}
			if count > 8 {
				wantFault(t, m, api.ErrLong, 41)
				continue
			}
			wantFit(t, m)
		}
	}
}

// A spawn must have as many registers as the template that it names has parameters, wherever that one stands.
func TestHowManyRegistersOfASpawn(t *testing.T) {
	for params := range 12 {
		for registers := range 10 {
			for self := range 3 {
				m := bare()
				m.Templates = slices.Repeat(m.Templates, 3)
				m.TemplateAt = []int{40, 41, 42}
				spawn := api.Insn{Op: api.OpSpawn, B: 1, L: rising(3, registers)}
				m.Templates[1].Params = make([]api.Param, params)
				m.Templates[self].Code = []api.Insn{spawn, {Op: api.OpHalt}}
				m.Templates[self].At = []int{50, 51}
				switch {
				case self > 0 && params > 8:
					wantFault(t, m, api.ErrLong, 41)
				case registers != params || registers > 8: // no spawn may have more
					wantFault(t, m, api.ErrArg, 50)
				default:
					wantFit(t, m)
				}
			}
		}
	}
}

func TestHowManyInstructions(t *testing.T) {
	for _, count := range []int{0, 1, 2, 127, 128, 129, 130, 256, 257, 1 << 16} {
		m := bare()
		m.TemplateAt = []int{40, 41}
		var code []api.Insn
		if count > 0 {
			code = append(make([]api.Insn, count-1), api.Insn{Op: api.OpHalt})
		}
		m.Templates = append(m.Templates, api.Template{Code: code, At: rising(50, count)})
		if count < 1 || count > 128 {
			wantFault(t, m, api.ErrArg, 41)
			m.Templates[1].At = nil
			wantFault(t, m, api.ErrArg, 41)
			m.TemplateAt = m.TemplateAt[:1]
			wantFault(t, m, api.ErrArg, 0)
		} else {
			wantFit(t, m)
		}
		if count > 0 {
			code[count-1] = api.Insn{Op: api.OpPop, B: 1}
			m.Templates[1].At = rising(50, count)
			wantFault(t, m, api.ErrArg, 49+count)
		}
	}
}

// handsAll is a module that fits, with so many channels of words, whose endpoints are arguments of as few starts as that takes.
func handsAll(chans int) api.Module {
	m := bare()
	m.Nodes = []api.Node{tables.Of(api.Send, 0, tables.Far(0, 1))}
	m.Templates[0].Params = slices.Repeat([]api.Param{{IsChan: true}}, 8)
	m.Templates = append(m.Templates, api.Template{Params: m.Templates[0].Params[:2], Code: m.Templates[0].Code})
	m.Chans = make([]api.Type, chans)
	for end := 0; end < 2*chans; {
		s := api.Start{}
		count := 8
		if 2*chans-end < 8 {
			s.Template, count = 1, 2
		}
		for range count {
			s.Args = append(s.Args, api.Arg{IsChan: true, End: end})
			end++
		}
		m.Starts = append(m.Starts, s)
	}
	return m
}

func TestHowManyChannels(t *testing.T) {
	for _, count := range []int{0, 1, 2, 4, 8, 12, 15, 16} {
		wantFit(t, handsAll(count))
		m := handsAll(count)
		m.Chans = append(m.Chans, api.Type{})
		wantFault(t, m, either(count < 16, api.ErrBoot, api.ErrLong), 0)
	}
	for _, count := range []int{17, 18, 32, 64, 100, 256, 257, 1 << 16} {
		m := bare()
		m.Chans = make([]api.Type, count)
		m.ChanAt = rising(50, count)
		wantFault(t, m, api.ErrLong, 0)
		m = handsAll(count)
		wantFault(t, m, api.ErrLong, 0)
	}
}

func TestHowManyStarts(t *testing.T) {
	for _, count := range []int{0, 1, 2, 7, 8, 9, 10, 16, 100, 256, 264, 1 << 16} {
		m := bare()
		m.Starts = make([]api.Start, count)
		m.StartAt = rising(50, count)
		wantCode(t, m, either(count <= 8, api.OK, api.ErrLong), 0)
		if count > 0 {
			m.Starts[count-1].Template = 1
			at := 49 + count
			wantCode(t, m, either(count <= 8, api.ErrOpen, api.ErrLong), either(count <= 8, at, 0))
		}
	}
}

func TestHowManyArguments(t *testing.T) {
	for params := range 9 {
		for args := range 12 {
			m := bare()
			m.Templates[0].Params = make([]api.Param, params)
			m.Starts = []api.Start{{Args: make([]api.Arg, params)}, {Args: make([]api.Arg, args)}, {Args: make([]api.Arg, params)}}
			m.StartAt = []int{50, 51, 52}
			wantCode(t, m, either(params == args, api.OK, api.ErrArg), 51)
		}
	}
}

// The nodes' errors, at the node's place, and those that are of none.
func TestNodes(t *testing.T) {
	send := tables.Of(api.Send, 5, tables.Far(0, 0))
	for _, c := range []struct {
		nodes []api.Node
		code  api.Errno
		at    int
	}{
		{nil, api.ErrArg, 0},
		{make([]api.Node, 64), api.OK, 0},
		{make([]api.Node, 65), api.ErrLong, 0},
		{make([]api.Node, 1<<16), api.ErrLong, 0},
		{[]api.Node{{}, send}, api.OK, 0},
		{[]api.Node{{Prio: 1}, send}, api.ErrKind, 30},
		{[]api.Node{{}, {Kind: 6}}, api.ErrKind, 31},
		{[]api.Node{{}, {Kind: -1}}, api.ErrKind, 31},
		{[]api.Node{{}, {Kind: api.Branch}}, api.ErrKind, 31},
		{[]api.Node{{}, tables.Of(api.Send, 0, tables.Far(2, 0))}, api.ErrOpen, 31},
		{[]api.Node{{}, {}, tables.Alias(2, 0)}, api.ErrAlias, 32},
		{[]api.Node{send}, api.ErrOrder, 30},
		{[]api.Node{{}, send, tables.OfEnd(api.Recv, 5, tables.Far(1, 0), tables.Far(0, 0))}, api.ErrOrder, 32},
		{append(make([]api.Node, 63), tables.Of(api.Send, 0, tables.Far(63, 0))), api.ErrOrder, 0},
	} {
		m := bare()
		m.Nodes = c.nodes
		m.NodeAt = []int{30, 31, 32}
		wantCode(t, m, c.code, c.at)
	}
}

// A parameter that is a word has no type; an endpoint's type may be any that is there.
func TestParameters(t *testing.T) {
	m := bare()
	m.TemplateAt = []int{40}
	m.Nodes = append(m.Nodes, tables.Alias(0, 1000))
	for _, odd := range append(tables.OddNumbers(), 1, 2, 1000) {
		for _, of := range []api.Type{{Node: odd}, {Offset: odd}, {Node: 1, Offset: odd}, {Node: odd, Offset: odd}} {
			m.Templates[0].Params = []api.Param{{}, {Type: of}, {}}
			wantFault(t, m, api.ErrArg, 40)
		}
	}
	for node := range 2 {
		for _, offset := range []int{0, 1, 999, 1000} {
			m.Templates[0].Params = []api.Param{{}, {IsChan: true, Type: api.Type{Node: node, Offset: offset}}}
			wantFit(t, m)
		}
	}
	// That a node is not there is told ahead of an offset that may not be.
	for _, offset := range []int{-1, 1001} {
		m.Templates[0].Params[1].Type = api.Type{Node: 2, Offset: offset}
		wantFault(t, m, api.ErrOpen, 40)
		m.Templates[0].Params[1].Type = api.Type{Node: 1, Offset: offset}
		wantFault(t, m, api.ErrArg, 40)
	}
}

// Each instruction that may not be is told at its own place, ahead of how control goes on in any of the code.
func TestInstructions(t *testing.T) {
	for i := range everyOps {
		m := every()
		m.Templates[1].Code[0] = api.Insn{Op: api.OpJump, L: []int{99}}
		m.Templates[1].Code[i].Op = 25
		wantFault(t, m, api.ErrOp, 401+i)
		m.Templates[1].Code[i].Op = -1
		wantFault(t, m, api.ErrOp, 401+i)
		m.Templates[1].Code[i] = api.Insn{Op: api.OpHalt, D: 1}
		wantFault(t, m, api.ErrArg, 401+i)
	}
	// A number that names something in a new or a spawn names nothing in others.
	m := bare()
	m.Templates[0].Code = []api.Insn{{Op: api.OpSelect, B: 15, C: 7}, {Op: api.OpGet, B: 15}, {Op: api.OpHalt}}
	wantFit(t, m)
}

// How control goes on is told of the first code in which it does not as it must.
func TestCodes(t *testing.T) {
	halt, jump := api.Insn{Op: api.OpHalt}, func(to int) api.Insn { return api.Insn{Op: api.OpJump, L: []int{to}} }
	for _, c := range []struct {
		code []api.Insn
		e    api.Errno
		at   int
	}{
		{[]api.Insn{halt}, api.OK, 0},
		{nil, api.ErrArg, 41},
		{[]api.Insn{{}}, api.ErrJump, 50},
		{[]api.Insn{jump(1)}, api.ErrJump, 50},
		{[]api.Insn{{}, jump(127)}, api.ErrJump, 51},
		{[]api.Insn{halt, {}, halt}, api.ErrDead, 51},
		{[]api.Insn{jump(2), {}, halt}, api.ErrDead, 51},
		{[]api.Insn{{}, {}, jump(1)}, api.ErrSilent, 51},
		{[]api.Insn{{}, {Op: api.OpRecv}, jump(1)}, api.OK, 0},
	} {
		m := bare()
		m.Templates = append(m.Templates, api.Template{Code: c.code, At: []int{50, 51, 52}}, api.Template{Code: []api.Insn{{}}})
		m.TemplateAt = []int{40, 41, 42}
		if c.e == api.OK {
			wantFault(t, m, api.ErrJump, 0)
			m.Templates = m.Templates[:2]
		}
		wantCode(t, m, c.e, c.at)
	}
}

// Which sort is asked for is told ahead of what else is wrong with an argument, and each argument ahead of the next one.
func TestArguments(t *testing.T) {
	word, end := api.Param{}, api.Param{IsChan: true}
	for _, c := range []struct {
		param api.Param
		arg   api.Arg
		code  api.Errno
	}{
		{word, api.Arg{}, api.OK},
		{word, api.Arg{Word: math.MinInt64}, api.OK},
		{word, api.Arg{Word: 7, End: 1}, api.ErrArg},
		{word, api.Arg{End: -1}, api.ErrArg},
		{word, api.Arg{IsChan: true, End: 1}, api.ErrBoot},
		{word, api.Arg{IsChan: true, End: 2}, api.ErrBoot},
		{word, api.Arg{IsChan: true, End: 1, Word: 5}, api.ErrBoot},
		{word, api.Arg{IsChan: true}, api.ErrBoot},
		{end, api.Arg{IsChan: true, End: 1}, api.OK},
		{end, api.Arg{IsChan: true, End: 1, Word: 1}, api.ErrArg},
		{end, api.Arg{IsChan: true, End: 1, Word: math.MinInt64}, api.ErrArg},
		{end, api.Arg{IsChan: true, End: 2}, api.ErrArg},
		{end, api.Arg{IsChan: true, End: -1}, api.ErrArg},
		{end, api.Arg{IsChan: true, End: -2, Word: 1}, api.ErrArg},
		{end, api.Arg{IsChan: true, End: 0, Word: 1}, api.ErrArg},
		{end, api.Arg{IsChan: true, End: 0}, api.ErrUsed},
		{end, api.Arg{}, api.ErrBoot},
		{end, api.Arg{Word: 1}, api.ErrBoot},
		{end, api.Arg{End: 1}, api.ErrBoot},
		{end, api.Arg{Word: 1, End: 1}, api.ErrBoot},
	} {
		for _, behind := range []api.Arg{{}, {End: 1}, {IsChan: true}} {
			m := bare()
			m.Chans = []api.Type{{}}
			m.Templates[0].Params = []api.Param{end, c.param, word}
			m.Starts = []api.Start{{Args: []api.Arg{{IsChan: true}, c.arg, behind}}}
			m.StartAt = []int{50}
			code, at := c.code, 50
			switch {
			case code != api.OK:
			case behind.IsChan:
				code = api.ErrBoot
			case behind.End != 0:
				code = api.ErrArg
			case !c.param.IsChan:
				code, at = api.ErrBoot, 0 // the endpoint 1 is no argument
			}
			wantCode(t, m, code, at)
		}
	}
}

// Each endpoint is an argument just once: of each two arguments that are alike the second one is told, in whichever start it is.
func TestEndpointsTwice(t *testing.T) {
	const chans = 16
	place := func(end int) (start, arg int) { return end / 8, end % 8 }
	for first := range 2 * chans {
		for second := range 2 * chans {
			m := handsAll(chans)
			m.StartAt = rising(50, 4)
			start, arg := place(second)
			m.Starts[start].Args[arg].End = first
			if first == second {
				wantFit(t, m)
				continue
			}
			later, _ := place(max(first, second))
			wantFault(t, m, api.ErrUsed, 50+later)
		}
	}
}

// An endpoint that is none is told behind all starts, at 0, whichever it is.
func TestEndpointsThatAreNone(t *testing.T) {
	for chans := range 16 {
		for end := range 2 * (chans + 1) {
			m := handsAll(chans + 1)
			m.StartAt = rising(50, len(m.Starts))
			word := m.Templates[0]
			start, arg := end/8, end%8
			if m.Starts[start].Template == 1 {
				start, arg = start+arg/2, arg%2
			}
			word.Params = slices.Clone(m.Templates[m.Starts[start].Template].Params)
			word.Params[arg].IsChan = false
			m.Templates = append(m.Templates, word)
			m.Starts[start].Template = 2
			m.Starts[start].Args[arg] = api.Arg{Word: 7}
			wantFault(t, m, api.ErrBoot, 0)
			if t.Failed() {
				t.FailNow()
			}
		}
	}
	m := bare()
	m.Chans = make([]api.Type, 16)
	m.ChanAt = rising(60, 16)
	wantFault(t, m, api.ErrBoot, 0)
}

// A module at its greatest: as much as may be of all.
func TestAModuleAtItsGreatest(t *testing.T) {
	m := handsAll(16)
	m.Nodes = slices.Repeat([]api.Node{tables.Of(api.Branch, 1000, slices.Repeat([]api.Edge{tables.Far(63, 1000)}, 8)...)}, 64)
	last := api.Type{Node: 63, Offset: 1000}
	m.Chans = slices.Repeat([]api.Type{last}, 16)
	m.Starts = append(m.Starts, slices.Repeat([]api.Start{{Template: 2, Args: make([]api.Arg, 8)}}, 4)...)
	m.Templates = append(m.Templates, slices.Repeat([]api.Template{{Params: make([]api.Param, 8)}}, 14)...)
	for i := range m.Templates {
		m.Templates[i].Params = slices.Clone(m.Templates[i].Params)
		for j, p := range m.Templates[i].Params {
			if p.IsChan {
				m.Templates[i].Params[j].Type = last
			}
		}
		code := slices.Repeat([]api.Insn{{Op: api.OpNew, B: 63, D: 1000, L: []int{14, 15}}}, 63)
		code = append(code, slices.Repeat([]api.Insn{{Op: api.OpSpawn, B: 15, L: rising(8, 8)}}, 64)...)
		m.Templates[i].Code = append(code, api.Insn{Op: api.OpBranch, B: 15, L: slices.Repeat([]int{127}, 8)})
	}
	wantFit(t, m)
	s, e := module.Put(m)
	if e != api.OK {
		t.Fatalf("Put: %d", e)
	}
	m, err := module.Read(s)
	if err != nil {
		t.Fatal(err)
	}
	wantFit(t, m)
	m.Starts[7].Args[7].IsChan = true
	wantFault(t, m, api.ErrBoot, m.StartAt[7])
}

// Faults of modules that were read stand where their bytes do, as worked out by hand.
func TestFaultsOfBytes(t *testing.T) {
	const head = "CLQY\x01"
	for _, c := range []struct {
		bytes string
		code  api.Errno
		at    int
	}{
		{"\x01\x02\x01\x00" + "\x02\x04\x01\x00\x01\x18" + "\x03\x04\x00\x01\x00\x00", api.OK, 0},
		{"\x01\x01\x00" + "\x02\x04\x01\x00\x01\x18" + "\x03\x04\x00\x01\x00\x00", api.ErrArg, 0},
		// A Send of a word, of priority 0, to itself: at 8, behind an End at 8: at 9.
		{"\x01\x06\x01\x01\x00\x00\x00\x00" + "\x02\x04\x01\x00\x01\x18" + "\x03\x02\x00\x00", api.ErrOrder, 8},
		{"\x01\x07\x02\x00\x01\x00\x00\x01\x00" + "\x02\x04\x01\x00\x01\x18" + "\x03\x02\x00\x00", api.ErrOrder, 9},
		{"\x01\x07\x02\x00\x01\x00\x00\x02\x00" + "\x02\x04\x01\x00\x01\x18" + "\x03\x02\x00\x00", api.ErrOpen, 9},
		{"\x01\x02\x01\x00" + "\x02\x01\x00" + "\x03\x02\x00\x00", api.ErrArg, 0},
		// The halt at 14 is a pop.
		{"\x01\x02\x01\x00" + "\x02\x04\x01\x00\x01\x02" + "\x03\x04\x00\x01\x00\x00", api.ErrJump, 14},
		// Two templates, at 12 and 15; the second one has a parameter of the node 1.
		{"\x01\x02\x01\x00" + "\x02\x0a\x02\x00\x01\x18\x01\x01\x01\x00\x01\x18" + "\x03\x02\x00\x00", api.ErrOpen, 15},
		// new of the node 1, at 14; spawn of the template 1, at 14; of the template 0, with the register 0, at 14.
		{"\x01\x02\x01\x00" + "\x02\x09\x01\x00\x02\x14\x01\x00\x00\x01\x18" + "\x03\x02\x00\x00", api.ErrOpen, 14},
		{"\x01\x02\x01\x00" + "\x02\x07\x01\x00\x02\x15\x01\x00\x18" + "\x03\x02\x00\x00", api.ErrOpen, 14},
		{"\x01\x02\x01\x00" + "\x02\x08\x01\x00\x02\x15\x00\x01\x00\x18" + "\x03\x02\x00\x00", api.ErrArg, 14},
		// halt, halt: the second one at 15 is not reached.
		{"\x01\x02\x01\x00" + "\x02\x05\x01\x00\x02\x18\x18" + "\x03\x02\x00\x00", api.ErrDead, 15},
		// A channel of the node 1, at 18, behind one of the node 0, at 20.
		{"\x01\x02\x01\x00" + "\x02\x04\x01\x00\x01\x18" + "\x03\x04\x01\x01\x00\x00", api.ErrOpen, 18},
		{"\x01\x02\x01\x00" + "\x02\x04\x01\x00\x01\x18" + "\x03\x06\x02\x00\x00\x01\x00\x00", api.ErrOpen, 20},
		{"\x01\x02\x01\x00" + "\x02\x04\x01\x00\x01\x18" + "\x03\x04\x01\x00\x00\x00", api.ErrBoot, 0},
		// Two starts, at 19 and 21; the second one is of the template 1, or has a word.
		{"\x01\x02\x01\x00" + "\x02\x04\x01\x00\x01\x18" + "\x03\x06\x00\x02\x00\x00\x01\x00", api.ErrOpen, 21},
		{"\x01\x02\x01\x00" + "\x02\x04\x01\x00\x01\x18" + "\x03\x08\x00\x02\x00\x00\x00\x01\x00\x05", api.ErrArg, 21},
		// A template of an endpoint of the node 0; a channel at 21; starts at 24 and 28, both with the endpoint 1; or the first one with the endpoint 2, or a word.
		{"\x01\x02\x01\x00" + "\x02\x07\x01\x01\x01\x00\x00\x01\x18" + "\x03\x0c\x01\x00\x00\x02\x00\x01\x01\x01\x00\x01\x01\x01", api.ErrUsed, 28},
		{"\x01\x02\x01\x00" + "\x02\x07\x01\x01\x01\x00\x00\x01\x18" + "\x03\x0c\x01\x00\x00\x02\x00\x01\x01\x02\x00\x01\x01\x01", api.ErrArg, 24},
		{"\x01\x02\x01\x00" + "\x02\x07\x01\x01\x01\x00\x00\x01\x18" + "\x03\x0c\x01\x00\x00\x02\x00\x01\x00\x02\x00\x01\x01\x01", api.ErrBoot, 24},
		{"\x01\x02\x01\x00" + "\x02\x07\x01\x01\x01\x00\x00\x01\x18" + "\x03\x0c\x01\x00\x00\x02\x00\x01\x01\x00\x00\x01\x01\x01", api.OK, 0},
	} {
		m, err := module.Read(head + c.bytes)
		if err != nil {
			t.Fatalf("Read of % x: %v", c.bytes, told(err))
		}
		wantCode(t, m, c.code, c.at)
		if t.Failed() {
			t.Fatalf("% x", c.bytes)
		}
	}
}

// Of each row that bytes can have the fault stands where the thing's bytes do.
func TestRowsThatWereRead(t *testing.T) {
	count := 0
	for _, w := range wrongs() {
		m := every()
		w.change(&m)
		s, e := module.Put(m)
		if e != api.OK {
			continue
		}
		read, err := module.Read(s)
		if err != nil {
			t.Fatalf("%s: %v", w.row, told(err))
		}
		count++
		at := 0
		for i, places := range placesOf(&m) {
			if j := slices.Index(*places, w.at); j >= 0 {
				at = (*placesOf(&read)[i])[j]
			}
		}
		if (at == 0) != (w.at == 0) {
			t.Errorf("%s: no place", w.row)
		}
		wantFault(t, read, w.code, at)
	}
	if count < 20 {
		t.Errorf("just %d rows were read", count)
	}
}

func TestAFaultIsFoundByItsTypeAndItsNumber(t *testing.T) {
	for _, w := range wrongs() {
		m := every()
		w.change(&m)
		err := limit.Check(m)
		var f *api.Fault
		if !errors.As(err, &f) || f.Code != w.code || f.At != w.at || !errors.Is(err, w.code) || errors.Is(err, w.code+1) {
			t.Errorf("%s: %v", w.row, err)
		}
	}
}

// What is answered hangs on nothing but what is handed in: also many that ask at one time get the same.
func TestManyAskAtOneTime(t *testing.T) {
	good, bad := every(), every()
	bad.Starts[4].Args[2].End = 4
	done := make(chan bool)
	for range 16 {
		go func() {
			done <- limit.Check(good) == nil && faults.Unlike(limit.Check(bad), api.ErrUsed, 705) == ""
		}()
	}
	for range 16 {
		if !<-done {
			t.Error("another answer")
		}
	}
}
