package module_test

import (
	"math"
	"reflect"
	"slices"
	"testing"

	"colloquy/api"
	"colloquy/codes"
	"colloquy/faults"
	"colloquy/insn"
	"colloquy/leb"
	"colloquy/module"
	"colloquy/modules"
	"colloquy/octets"
	"colloquy/sect"
	"colloquy/tables"
)

const head = "CLQY\x01"

// number are the bytes of a number.
func number(n uint64) string {
	w := octets.NewWriter()
	leb.PutU(w, n)
	return w.Text()
}

// whole are a module's bytes, of its sections' texts.
func whole(texts [3]string) string {
	s := head
	for i, text := range texts {
		s += string([]byte{byte(i + 1)}) + number(uint64(len(text))) + text
	}
	return s
}

// beginnings are the places of the texts in a module's bytes.
func beginnings(texts [3]string) [3]int {
	var places [3]int
	at := len(head)
	for i, text := range texts {
		places[i] = at + 1 + len(number(uint64(len(text))))
		at = places[i] + len(text)
	}
	return places
}

// What a part of a section's text may be.
const (
	isNumber = iota
	isMark
	isCount
	isWhole
	isInsn
)

// part is a part of a section's text, as the chapter's table has it.
type part struct {
	bytes string
	sort  int
	most  int    // the greatest number that may be
	least int    // the least one: 1 of how many, where there must be one
	thing string // what begins with it, if its place is kept
}

// layout is a section's parts, one behind the other.
type layout struct {
	parts []part
	thing string // what begins with the next part
}

// add lays a part.
func (l *layout) add(p part) {
	p.thing, l.thing = l.thing, ""
	l.parts = append(l.parts, p)
}

func (l *layout) number(n, most int) {
	l.add(part{bytes: number(uint64(n)), sort: isNumber, most: most})
}

func (l *layout) count(n, least, most int) {
	l.add(part{bytes: number(uint64(n)), sort: isCount, least: least, most: most})
}

// mark lays a mark, and answers it.
func (l *layout) mark(isSo bool) bool {
	bytes := "\x00"
	if isSo {
		bytes = "\x01"
	}
	l.add(part{bytes: bytes, sort: isMark, most: 1})
	return isSo
}

func (l *layout) edge(e api.Edge) {
	l.number(e.To, 63)
	l.number(e.Shift, 1000)
}

func (l *layout) typeOf(t api.Type) {
	l.number(t.Node, 63)
	l.number(t.Offset, 1000)
}

func (l *layout) node(n api.Node) {
	l.thing = "node"
	l.number(n.Kind, 5)
	switch n.Kind {
	case api.Send, api.Recv:
		l.number(n.Prio, 1000)
		if l.mark(n.IsChan) {
			l.edge(n.Pay)
		}
	case api.Select, api.Branch:
		l.number(n.Prio, 1000)
		l.count(len(n.Next), 1, 8)
	}
	for _, e := range n.Next {
		l.edge(e)
	}
}

func (l *layout) template(given api.Template) {
	l.thing = "template"
	l.count(len(given.Params), 0, 8)
	for _, p := range given.Params {
		if l.mark(p.IsChan) {
			l.typeOf(p.Type)
		}
	}
	l.count(len(given.Code), 1, 128)
	for _, x := range given.Code {
		w := octets.NewWriter()
		insn.Put(w, x)
		l.thing = "insn"
		l.add(part{bytes: w.Text(), sort: isInsn})
	}
}

func (l *layout) start(s api.Start) {
	l.thing = "start"
	l.number(s.Template, 15)
	l.count(len(s.Args), 0, 8)
	for _, a := range s.Args {
		if l.mark(a.IsChan) {
			l.number(a.End, 31)
			continue
		}
		w := octets.NewWriter()
		leb.PutS(w, a.Word)
		l.add(part{bytes: w.Text(), sort: isWhole})
	}
}

// partsOf are the parts of each of a module's sections.
func partsOf(m api.Module) [3][]part {
	var types, templates, boot layout
	types.count(len(m.Nodes), 0, 64)
	for _, n := range m.Nodes {
		types.node(n)
	}
	templates.count(len(m.Templates), 0, 16)
	for _, one := range m.Templates {
		templates.template(one)
	}
	boot.count(len(m.Chans), 0, 16)
	for _, one := range m.Chans {
		boot.thing = "chan"
		boot.typeOf(one)
	}
	boot.count(len(m.Starts), 0, 8)
	for _, s := range m.Starts {
		boot.start(s)
	}
	return [3][]part{types.parts, templates.parts, boot.parts}
}

// textOf are the bytes of some parts.
func textOf(parts []part) string {
	s := ""
	for _, p := range parts {
		s += p.bytes
	}
	return s
}

// textsOf are the texts of a module's sections.
func textsOf(m api.Module) [3]string {
	parts := partsOf(m)
	return [3]string{textOf(parts[0]), textOf(parts[1]), textOf(parts[2])}
}

// bytesOf are a module's bytes, by the chapter's words.
func bytesOf(m api.Module) string { return whole(textsOf(m)) }

// placed is a copy of a module, with the places at which its things stand among its bytes.
func placed(m api.Module) api.Module {
	m = modules.Roomy(m)
	m.NodeAt, m.TemplateAt, m.ChanAt, m.StartAt = nil, nil, nil, nil
	for i := range m.Templates {
		m.Templates[i].At = nil
	}
	ats := beginnings(textsOf(m))
	for i, parts := range partsOf(m) {
		at := ats[i]
		for _, p := range parts {
			switch p.thing {
			case "node":
				m.NodeAt = append(m.NodeAt, at)
			case "template":
				m.TemplateAt = append(m.TemplateAt, at)
			case "insn":
				last := &m.Templates[len(m.TemplateAt)-1]
				last.At = append(last.At, at)
			case "chan":
				m.ChanAt = append(m.ChanAt, at)
			case "start":
				m.StartAt = append(m.StartAt, at)
			}
			at += len(p.bytes)
		}
	}
	return m
}

// eachList tells all lists that a value holds.
func eachList(v reflect.Value, tell func(list reflect.Value)) {
	switch v.Kind() {
	case reflect.Struct:
		for i := range v.NumField() {
			eachList(v.Field(i), tell)
		}
	case reflect.Slice:
		tell(v)
		for i := range v.Len() {
			eachList(v.Index(i), tell)
		}
	}
}

// wantKept asks that a module that was handed in, a copy by modules.Roomy, is as it was, and so is the room behind its lists.
func wantKept(t *testing.T, given, was api.Module) {
	t.Helper()
	if !modules.Same(given, was) {
		t.Errorf("%v was handed in, and is %v now", was, given)
	}
	if !modules.IsRoomEmpty(given) {
		t.Errorf("%v: something was laid behind a list", was)
	}
}

// wantApart asks that no two lists of these modules share memory.
func wantApart(t *testing.T, all ...api.Module) {
	t.Helper()
	var spans [][2]uintptr
	eachList(reflect.ValueOf(all), func(list reflect.Value) {
		if size := uintptr(list.Cap()) * list.Type().Elem().Size(); size > 0 {
			spans = append(spans, [2]uintptr{list.Pointer(), list.Pointer() + size})
		}
	})
	slices.SortFunc(spans, func(a, b [2]uintptr) int {
		if a[0] < b[0] {
			return -1
		}
		return 1
	})
	for i := 1; i < len(spans); i++ {
		if spans[i][0] < spans[i-1][1] {
			t.Error("two lists share memory")
		}
	}
}

// wantPut asks for the bytes that are laid of a module, again also where the first ones were laid.
func wantPut(t *testing.T, m api.Module, bytes string) {
	t.Helper()
	given, was := modules.Roomy(m), modules.Roomy(m)
	for range 2 {
		if got, e := module.Put(given); got != bytes || e != api.OK {
			t.Errorf("Put of %v: % x, %d, but % x is asked for", m, got, e, bytes)
		}
	}
	wantKept(t, given, was)
}

// wantNoPut asks for ErrArg alone.
func wantNoPut(t *testing.T, m api.Module) {
	t.Helper()
	given, was := modules.Roomy(m), modules.Roomy(m)
	for range 2 {
		if got, e := module.Put(given); got != "" || e != api.ErrArg {
			t.Errorf("Put of %v: % x, %d, but ErrArg alone is asked for", m, got, e)
		}
	}
	wantKept(t, given, was)
}

// wantRead asks for the module that is read, with the places of its things.
func wantRead(t *testing.T, s string, m api.Module) {
	t.Helper()
	first, err := module.Read(s)
	second, bad := module.Read(s)
	if err != nil || bad != nil || !modules.Same(first, m) || !modules.Same(second, m) {
		t.Errorf("Read of % x: %v, %v, but %v is asked for", s, first, err, m)
	}
	wantApart(t, first, second)
}

// wantNoRead asks for a fault alone.
func wantNoRead(t *testing.T, s string, code api.Errno, at int) {
	t.Helper()
	for range 2 {
		m, err := module.Read(s)
		if wrong := faults.Unlike(err, code, at); wrong != "" {
			t.Errorf("Read of % x: %s", s, wrong)
		}
		if !reflect.DeepEqual(m, api.Module{}) {
			t.Errorf("Read of % x: %v beside a fault", s, m)
		}
	}
}

// leastBytes are those of modules.Least.
const leastBytes = "CLQY\x01" + "\x01\x02\x01\x00" + "\x02\x04\x01\x00\x01\x18" + "\x03\x04\x00\x01\x00\x00"

// eachOp is a code with an instruction of each op.
func eachOp() []api.Insn {
	return []api.Insn{
		{Op: api.OpNop}, {Op: api.OpPush, A: 300}, {Op: api.OpPop}, {Op: api.OpDup}, {Op: api.OpAdd}, {Op: api.OpSub}, {Op: api.OpMul}, {Op: api.OpEq}, {Op: api.OpLt},
		{Op: api.OpGet, B: 3}, {Op: api.OpPut, B: 15}, {Op: api.OpJump, L: []int{127}}, {Op: api.OpJz, L: []int{0}}, {Op: api.OpOut},
		{Op: api.OpSend, B: 1}, {Op: api.OpRecv, B: 2}, {Op: api.OpGive, B: 1, C: 2}, {Op: api.OpTake, B: 3, C: 4}, {Op: api.OpSelect, B: 1, C: 7}, {Op: api.OpBranch, L: []int{4, 9}},
		{Op: api.OpNew, B: 2, D: 300, L: []int{0, 1}}, {Op: api.OpSpawn, B: 15}, {Op: api.OpClose, B: 9}, {Op: api.OpMove, B: 5, C: 6}, {Op: api.OpHalt},
	}
}

// every is a module in which every sort of thing stands.
func every() api.Module {
	return api.Module{
		Nodes: []api.Node{
			{Kind: api.End},
			tables.Alias(3, 300),
			tables.Of(api.Send, 7, tables.Far(1, 2)),
			tables.OfEnd(api.Send, 1000, tables.Far(63, 1000), tables.Far(0, 0)),
			tables.Of(api.Recv, 0, tables.Far(63, 1000)),
			tables.OfEnd(api.Recv, 1, tables.Far(0, 0), tables.Far(5, 1)),
			tables.Of(api.Select, 127, tables.Far(2, 128)),
			tables.Of(api.Branch, 128, tables.Far(0, 0), tables.Far(1, 1), tables.Far(2, 2)),
		},
		Templates: []api.Template{
			{Code: []api.Insn{{Op: api.OpHalt}}},
			{
				Params: []api.Param{{}, {IsChan: true, Type: api.Type{Node: 2}}, {IsChan: true, Type: api.Type{Node: 63, Offset: 1000}}, {}},
				Code:   []api.Insn{{Op: api.OpPush, A: -2}, {Op: api.OpSpawn, B: 1, L: []int{0, 3}}, {Op: api.OpHalt}},
			},
			{Params: []api.Param{{IsChan: true, Type: api.Type{Offset: 5}}}, Code: eachOp()},
		},
		Chans: []api.Type{{}, {Node: 63, Offset: 1000}, {Node: 7, Offset: 128}},
		Starts: []api.Start{
			{},
			{Template: 15, Args: []api.Arg{{IsChan: true}, {Word: -1}, {IsChan: true, End: 31}, {Word: 64}, {Word: math.MinInt64}}},
			{Template: 1, Args: []api.Arg{{}}},
		},
	}
}

// The bytes of every, worked out by hand.
const (
	everyTypes = "\x08" + "\x00" + "\x05\x03\xac\x02" + "\x01\x07\x00\x01\x02" + "\x01\xe8\x07\x01\x3f\xe8\x07\x00\x00" + "\x02\x00\x00\x3f\xe8\x07" +
		"\x02\x01\x01\x00\x00\x05\x01" + "\x03\x7f\x01\x02\x80\x01" + "\x04\x80\x01\x03\x00\x00\x01\x01\x02\x02"
	everyTemplates = "\x03" + "\x00\x01\x18" +
		"\x04\x00\x01\x02\x00\x01\x3f\xe8\x07\x00" + "\x03" + "\x01\x03" + "\x15\x01\x02\x00\x03" + "\x18" +
		"\x01\x01\x00\x05" + "\x19" + "\x00" + "\x01\xd8\x04" + "\x02\x03\x04\x05\x06\x07\x08" + "\x09\x03" + "\x0a\x0f" + "\x0b\x7f" + "\x0c\x00" + "\x0d" +
		"\x0e\x01" + "\x0f\x02" + "\x10\x01\x02" + "\x11\x03\x04" + "\x12\x01\x07" + "\x13\x00\x02\x04\x09" + "\x14\x02\xac\x02\x00\x01" + "\x15\x0f\x00" + "\x16\x09" + "\x17\x05\x06" + "\x18"
	everyBoot = "\x03" + "\x00\x00" + "\x3f\xe8\x07" + "\x07\x80\x01" + "\x03" + "\x00\x00" +
		"\x0f\x05" + "\x01\x00" + "\x00\x01" + "\x01\x1f" + "\x00\x80\x01" + "\x00\xff\xff\xff\xff\xff\xff\xff\xff\xff\x01" + "\x01\x01\x00\x00"
	everyBytes = head + "\x01\x31" + everyTypes + "\x02\x51" + everyTemplates + "\x03\x26" + everyBoot
)

// everyPlaced is that module with the places of its things, worked out by hand.
func everyPlaced() api.Module {
	m := every()
	m.NodeAt = []int{8, 9, 13, 18, 27, 33, 40, 46}
	m.TemplateAt = []int{59, 62, 81}
	m.Templates[0].At = []int{61}
	m.Templates[1].At = []int{73, 75, 80}
	m.Templates[2].At = []int{
		86, 87, 90, 91, 92, 93, 94, 95, 96, 97, 99, 101, 103, 105, 106, 108, 110, 113, 116, 119, 124, 130, 133, 135, 138,
	}
	m.ChanAt = []int{142, 144, 147}
	m.StartAt = []int{151, 153, 175}
	return m
}

// many is a list of one thing, so many times.
func many[T any](one T, count int) []T { return slices.Repeat([]T{one}, count) }

// full is a module whose lists, and numbers, are at their greatest.
func full() api.Module {
	edge := tables.Far(63, 1000)
	t := api.Type{Node: 63, Offset: 1000}
	m := api.Module{
		Nodes:  many(tables.Of(api.Branch, 1000, many(edge, 8)...), 62),
		Chans:  many(t, 16),
		Starts: many(api.Start{Template: 15, Args: many(api.Arg{IsChan: true, End: 31}, 8)}, 8),
	}
	m.Nodes = append(m.Nodes, tables.OfEnd(api.Recv, 1000, edge, edge), tables.Alias(63, 1000))
	code := append(many(api.Insn{Op: api.OpPush, A: math.MaxInt64}, 100), many(api.Insn{Op: api.OpBranch, B: 15, L: many(127, 8)}, 28)...)
	m.Templates = many(api.Template{Params: many(api.Param{IsChan: true, Type: t}, 8), Code: code}, 16)
	m.Starts[7].Args = many(api.Arg{Word: math.MaxInt64}, 8)
	return m
}

// known are modules of several sorts, that can be laid.
func known() []api.Module {
	return []api.Module{{}, modules.Least(), every(), full()}
}

// pick is a number from least to most, as often one of both ends as another one.
func pick(r *tables.Row, least, most int) int {
	return []int{least, most, least + r.Below(most-least+1), least + r.Below(most-least+1)}[r.Below(4)]
}

// several are so many things, at most, or none.
func several[T any](r *tables.Row, least, most int, one func() T) []T {
	var l []T
	for range least + r.Below(most-least+1) {
		l = append(l, one())
	}
	return l
}

// mixedNode is a node that can be laid.
func mixedNode(r *tables.Row) api.Node {
	edge := func() api.Edge { return tables.Far(pick(r, 0, 63), pick(r, 0, 1000)) }
	switch kind := r.Below(6); kind {
	case api.End:
		return api.Node{}
	case api.Alias:
		return tables.Of(kind, 0, edge())
	case api.Send, api.Recv:
		if r.Below(2) == 0 {
			return tables.OfEnd(kind, pick(r, 0, 1000), edge(), edge())
		}
		return tables.Of(kind, pick(r, 0, 1000), edge())
	default:
		return tables.Of(kind, pick(r, 0, 1000), several(r, 1, 8, edge)...)
	}
}

// mixed is a module that can be laid, of so many of each thing, at most.
func mixed(r *tables.Row, most int) api.Module {
	typeOf := func() api.Type { return api.Type{Node: pick(r, 0, 63), Offset: pick(r, 0, 1000)} }
	param := func() api.Param {
		if r.Below(2) == 0 {
			return api.Param{}
		}
		return api.Param{IsChan: true, Type: typeOf()}
	}
	arg := func() api.Arg {
		if r.Below(2) == 0 {
			return api.Arg{Word: codes.Whole(r)}
		}
		return api.Arg{IsChan: true, End: pick(r, 0, 31)}
	}
	template := func() api.Template {
		return api.Template{
			Params: several(r, 0, min(most, 8), param),
			Code:   several(r, 1, min(most, 128), func() api.Insn { return codes.Mixed(r) }),
		}
	}
	start := func() api.Start {
		return api.Start{Template: pick(r, 0, 15), Args: several(r, 0, min(most, 8), arg)}
	}
	return api.Module{
		Nodes:     several(r, 0, min(most, 64), func() api.Node { return mixedNode(r) }),
		Templates: several(r, 0, min(most, 16), template),
		Chans:     several(r, 0, min(most, 16), typeOf),
		Starts:    several(r, 0, min(most, 8), start),
	}
}

// plain reads parts of a section, one behind the other; behind a fault nothing is read any more, and all is zero.
type plain struct {
	r   *octets.Reader
	err error
}

func (p *plain) number(most int) (n int) {
	if p.err == nil {
		n, p.err = leb.Small(p.r, most)
	}
	return n
}

func (p *plain) mark() bool { return p.number(1) == 1 }

func (p *plain) count(least, most int) int {
	at := p.r.Place()
	n := p.number(most)
	if p.err == nil && n < least {
		p.err = &api.Fault{Code: api.ErrArg, At: at}
	}
	return n
}

func (p *plain) edge() (e api.Edge) {
	e.To = p.number(63)
	e.Shift = p.number(1000)
	return e
}

func (p *plain) typeOf() (t api.Type) {
	t.Node = p.number(63)
	t.Offset = p.number(1000)
	return t
}

func (p *plain) end() {
	if p.err == nil {
		p.err = p.r.End()
	}
}

func (p *plain) types(m *api.Module) {
	for range p.count(0, 64) {
		m.NodeAt = append(m.NodeAt, p.r.Place())
		n := api.Node{Kind: p.number(5)}
		next := 0
		switch n.Kind {
		case api.Alias:
			next = 1
		case api.Send, api.Recv:
			n.Prio = p.number(1000)
			if n.IsChan = p.mark(); n.IsChan {
				n.Pay = p.edge()
			}
			next = 1
		case api.Select, api.Branch:
			n.Prio = p.number(1000)
			next = p.count(1, 8)
		}
		for range next {
			n.Next = append(n.Next, p.edge())
		}
		m.Nodes = append(m.Nodes, n)
	}
	p.end()
}

func (p *plain) templates(m *api.Module) {
	for range p.count(0, 16) {
		m.TemplateAt = append(m.TemplateAt, p.r.Place())
		var one api.Template
		for range p.count(0, 8) {
			param := api.Param{IsChan: p.mark()}
			if param.IsChan {
				param.Type = p.typeOf()
			}
			one.Params = append(one.Params, param)
		}
		for range p.count(1, 128) {
			one.At = append(one.At, p.r.Place())
			var x api.Insn
			if p.err == nil {
				x, p.err = insn.Read(p.r)
			}
			one.Code = append(one.Code, x)
		}
		m.Templates = append(m.Templates, one)
	}
	p.end()
}

func (p *plain) boot(m *api.Module) {
	for range p.count(0, 16) {
		m.ChanAt = append(m.ChanAt, p.r.Place())
		m.Chans = append(m.Chans, p.typeOf())
	}
	for range p.count(0, 8) {
		m.StartAt = append(m.StartAt, p.r.Place())
		s := api.Start{Template: p.number(15)}
		for range p.count(0, 8) {
			a := api.Arg{IsChan: p.mark()}
			if a.IsChan {
				a.End = p.number(31)
			} else if p.err == nil {
				a.Word, p.err = leb.S(p.r)
			}
			s.Args = append(s.Args, a)
		}
		m.Starts = append(m.Starts, s)
	}
	p.end()
}

// readPlainly is what Read must make of some bytes, by the chapter's words.
func readPlainly(s string) (m api.Module, err error) {
	texts, err := sect.Split(s)
	if err != nil {
		return api.Module{}, err
	}
	types, templates, boot := plain{r: texts[0]}, plain{r: texts[1]}, plain{r: texts[2]}
	types.types(&m)
	templates.templates(&m)
	boot.boot(&m)
	for _, p := range []plain{types, templates, boot} {
		if p.err != nil {
			return api.Module{}, p.err
		}
	}
	return m, nil
}

// wantAsTold holds what is read from some bytes against the chapter's words, and what is read against the bytes that are laid of it. It tells the fault's number.
func wantAsTold(t *testing.T, s string) api.Errno {
	t.Helper()
	m, err := readPlainly(s)
	code := api.OK
	if err != nil {
		f := err.(*api.Fault)
		code = f.Code
		wantNoRead(t, s, code, f.At)
	} else {
		wantRead(t, s, m)
		wantPut(t, m, s)
	}
	if t.Failed() {
		t.FailNow()
	}
	return code
}

// P11.3

func TestKnownModulesComeBack(t *testing.T) {
	for _, m := range known() {
		s, e := module.Put(m)
		if e != api.OK {
			t.Fatalf("Put of %v: %d", m, e)
		}
		wantRead(t, s, placed(m))
		wantPut(t, placed(m), s)
		if code := wantAsTold(t, s); code != api.OK {
			t.Errorf("Read: %d", code)
		}
	}
}

func TestManyModulesComeBack(t *testing.T) {
	row := tables.Row(11)
	for i := range 3000 {
		most := 3
		if i%50 == 0 {
			most = 128
		}
		m := mixed(&row, most)
		s, e := module.Put(m)
		if e != api.OK || s != bytesOf(m) {
			t.Fatalf("Put of %v: %d, % x", m, e, s)
		}
		wantRead(t, s, placed(m))
		wantPut(t, placed(m), s)
		if t.Failed() {
			t.FailNow()
		}
	}
}

// Modules that are not the same have not the same bytes: a change of each number of a module is seen.
func TestEachNumberIsSeen(t *testing.T) {
	was := bytesOf(every())
	m := every()
	for _, n := range numbersOf(&m) {
		before := *n.at
		*n.at = (before + 1) % (n.most + 1)
		s, e := module.Put(m)
		if e != api.OK || s == was {
			t.Errorf("%s: %d, and the bytes are as they were: %v", n.what, e, s == was)
		}
		wantRead(t, s, placed(m))
		*n.at = before
	}
}

// A text's bytes, of which some are others, or are lacking, or stand there twice, in sections that are as long.
func TestTextsThatWereSpoilt(t *testing.T) {
	row, met := tables.Row(7), map[api.Errno]int{}
	for range 60000 {
		texts := textsOf(mixed(&row, 3))
		i := row.Below(3)
		texts[i] = spoilt(&row, texts[i])
		met[wantAsTold(t, whole(texts))]++
	}
	for _, code := range []api.Errno{api.OK, api.ErrArg, api.ErrShort, api.ErrLong, api.ErrForm, api.ErrOp} {
		if met[code] < 100 {
			t.Errorf("%d is met just so often: %d", code, met[code])
		}
	}
}

// A module's bytes, of which some are others, or are lacking, or stand there twice, also those that lay the sections.
func TestBytesThatWereSpoilt(t *testing.T) {
	row, met := tables.Row(8), map[api.Errno]int{}
	for range 40000 {
		met[wantAsTold(t, spoilt(&row, bytesOf(mixed(&row, 2))))]++
	}
	for _, code := range []api.Errno{api.OK, api.ErrShort, api.ErrLong, api.ErrMagic, api.ErrKind} {
		if met[code] < 100 {
			t.Errorf("%d is met just so often: %d", code, met[code])
		}
	}
}

// spoilt is a text of which some bytes are others, or are lacking, or stand there twice.
func spoilt(r *tables.Row, text string) string {
	s := []byte(text)
	for range 1 + r.Below(3) {
		if len(s) == 0 {
			return "\x00"
		}
		i := r.Below(len(s))
		switch r.Below(6) {
		case 0:
			s = slices.Insert(s, i, s[i])
		case 1:
			s = slices.Delete(s, i, i+1)
		case 2:
			s[i] = byte(r.Below(256))
		default:
			s[i] += byte(r.Below(5) - 2)
		}
	}
	return string(s)
}

// All rows of up to four bytes out of these are each section's text.
func TestShortTexts(t *testing.T) {
	picked := []byte{0, 1, 2, 3, 4, 5, 8, 24, 64, 128, 129}
	met := map[api.Errno]int{}
	for i := range 3 {
		rows := []string{""}
		for range 5 {
			var longer []string
			for _, row := range rows {
				texts := [3]string{"\x00", "\x00", "\x00\x00"}
				texts[i] = row
				met[wantAsTold(t, whole(texts))]++
				if len(row) < 4 {
					for _, b := range picked {
						longer = append(longer, row+string([]byte{b}))
					}
				}
			}
			rows = longer
		}
	}
	if met[api.OK] < 10 || met[api.ErrArg] < 10 {
		t.Errorf("by what is told: %v", met)
	}
}

// Whatever bytes come, something is told.
func TestBytesOfAnySort(t *testing.T) {
	row := tables.Row(9)
	for range 5000 {
		s := make([]byte, row.Below(40))
		for i := range s {
			s[i] = byte(row.Below(256) >> row.Below(8))
		}
		wantAsTold(t, string(s))
		wantAsTold(t, head+string(s))
		at := row.Below(len(s) + 1)
		to := at + row.Below(len(s)-at+1)
		wantAsTold(t, whole([3]string{string(s[:at]), string(s[at:to]), string(s[to:])}))
	}
}

// What is answered hangs on nothing but what is handed in: also many that ask at one time get the same.
func TestManyAskAtOneTime(t *testing.T) {
	m, want := every(), everyPlaced()
	done := make(chan bool)
	for range 16 {
		go func() {
			s, e := module.Put(m)
			got, err := module.Read(everyBytes)
			done <- e == api.OK && s == everyBytes && err == nil && modules.Same(got, want)
		}()
	}
	for range 16 {
		if !<-done {
			t.Error("another answer")
		}
	}
}
