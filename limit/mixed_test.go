package limit_test

import (
	"errors"
	"math"
	"reflect"
	"slices"
	"testing"

	"colloquy/api"
	"colloquy/blocks"
	"colloquy/codes"
	"colloquy/insn"
	"colloquy/limit"
	"colloquy/module"
	"colloquy/modules"
	"colloquy/order"
	"colloquy/tables"
)

// line is a row of the chapter's table, of one thing.
type line struct {
	isSo bool
	code api.Errno
	at   int
}

// sheet is the chapter's table of one module, line by line.
type sheet struct {
	m     api.Module
	lines []line
}

func (s *sheet) add(isSo bool, code api.Errno, at int) {
	s.lines = append(s.lines, line{isSo, code, at})
}

// place is the i-th of some places, as the chapter's words have it.
func place(places []int, i int) int {
	if i < 0 || i >= len(places) {
		return 0
	}
	return places[i]
}

func (s *sheet) typeOf(t api.Type, at int) {
	s.add(t.Node < 0 || t.Node >= len(s.m.Nodes), api.ErrOpen, at)
	s.add(t.Offset < 0 || t.Offset > 1000, api.ErrArg, at)
}

func (s *sheet) template(i int) {
	one, at := s.m.Templates[i], place(s.m.TemplateAt, i)
	s.add(len(one.Params) > 8, api.ErrLong, at)
	for _, p := range one.Params {
		if p.IsChan {
			s.typeOf(p.Type, at)
		}
		s.add(!p.IsChan && (p.Type.Node != 0 || p.Type.Offset != 0), api.ErrArg, at)
	}
	for j, x := range one.Code {
		where := place(one.At, j)
		e := insn.Check(x)
		s.add(e != api.OK, e, where)
		s.add(x.Op == api.OpNew && x.B >= len(s.m.Nodes), api.ErrOpen, where)
		s.add(x.Op == api.OpSpawn && x.B >= len(s.m.Templates), api.ErrOpen, where)
		if x.Op == api.OpSpawn && x.B >= 0 && x.B < len(s.m.Templates) {
			s.add(len(x.L) != len(s.m.Templates[x.B].Params), api.ErrArg, where)
		}
	}
	_, j, e := blocks.Cut(one.Code)
	if j != -1 {
		at = place(one.At, j)
	}
	s.add(e != api.OK, e, at)
}

func (s *sheet) start(i int) {
	one, at := s.m.Starts[i], place(s.m.StartAt, i)
	isThere := one.Template >= 0 && one.Template < len(s.m.Templates)
	s.add(!isThere, api.ErrOpen, at)
	if !isThere {
		return
	}
	params := s.m.Templates[one.Template].Params
	s.add(len(one.Args) != len(params), api.ErrArg, at)
	for j, a := range one.Args {
		if j >= len(params) {
			return
		}
		s.add(a.IsChan != params[j].IsChan, api.ErrBoot, at)
		s.add(a.IsChan && (a.End < 0 || a.End >= 2*len(s.m.Chans)), api.ErrArg, at)
		s.add(a.IsChan && a.Word != 0 || !a.IsChan && a.End != 0, api.ErrArg, at)
		s.add(a.IsChan && handedBefore(s.m, a.End, i, j), api.ErrUsed, at)
	}
}

// handedBefore tells whether an endpoint is an argument ahead of the argument j of the start i.
func handedBefore(m api.Module, end, i, j int) bool {
	for k, s := range m.Starts {
		for l, a := range s.Args {
			if a.IsChan && a.End == end && (k < i || k == i && l < j) {
				return true
			}
		}
	}
	return false
}

// countOf is how often an endpoint is an argument.
func countOf(m api.Module, end int) int {
	count := 0
	for _, s := range m.Starts {
		for _, a := range s.Args {
			if a.IsChan && a.End == end {
				count++
			}
		}
	}
	return count
}

// checkPlainly is what Check must tell, by the chapter's table: the first line that is so; OK, if there is none.
func checkPlainly(m api.Module) (api.Errno, int) {
	s := sheet{m: m}
	node, e := order.Check(m.Nodes)
	s.add(e != api.OK, e, place(m.NodeAt, node))
	s.add(len(m.Templates) == 0, api.ErrArg, 0)
	s.add(len(m.Templates) > 16, api.ErrLong, 0)
	for i := range m.Templates {
		s.template(i)
	}
	s.add(len(m.Chans) > 16, api.ErrLong, 0)
	for i, t := range m.Chans {
		s.typeOf(t, place(m.ChanAt, i))
	}
	s.add(len(m.Starts) > 8, api.ErrLong, 0)
	for i := range m.Starts {
		s.start(i)
	}
	for end := range 2 * min(len(m.Chans), 16) {
		s.add(countOf(m, end) == 0, api.ErrBoot, 0)
	}
	for _, l := range s.lines {
		if l.isSo {
			return l.code, l.at
		}
	}
	return api.OK, 0
}

// wantAsTold holds what Check tells against the chapter's table, and what follows where nothing is told. It answers what is told.
func wantAsTold(t *testing.T, m api.Module) api.Errno {
	t.Helper()
	code, at := checkPlainly(m)
	wantCode(t, m, code, at)
	if code == api.OK {
		wantAllThere(t, m)
	}
	if t.Failed() {
		t.FailNow()
	}
	return code
}

// wantAllThere asks that each number in a module names something that is there, and each endpoint is an argument just once.
func wantAllThere(t *testing.T, m api.Module) {
	t.Helper()
	want := func(isSo bool, what string) {
		if !isSo {
			t.Errorf("Check of %v is nil, but %s", m, what)
		}
	}
	among := func(n, count int) bool { return 0 <= n && n < count }
	nodes := len(m.Nodes)
	for _, n := range m.Nodes {
		for _, e := range n.Next {
			want(among(e.To, nodes), "an edge leads out")
		}
		want(among(n.Pay.To, nodes), "a payload leads out")
	}
	for _, one := range m.Templates {
		for _, p := range one.Params {
			want(among(p.Type.Node, nodes), "a parameter's node is not there")
		}
		for _, x := range one.Code {
			for _, to := range blocks.Targets(x) {
				want(among(to, len(one.Code)), "a target is not there")
			}
			want(x.Op != api.OpNew || among(x.B, nodes), "a new's node is not there")
			want(x.Op != api.OpSpawn || among(x.B, len(m.Templates)) && len(m.Templates[x.B].Params) == len(x.L), "what is spawned is not there")
		}
	}
	for _, of := range m.Chans {
		want(among(of.Node, nodes), "a channel's node is not there")
	}
	ends := 0
	for _, s := range m.Starts {
		want(among(s.Template, len(m.Templates)) && len(m.Templates[s.Template].Params) == len(s.Args), "what is started is not there")
		for i, a := range s.Args {
			want(a.IsChan == m.Templates[s.Template].Params[i].IsChan, "an argument is of the other sort")
			if a.IsChan {
				ends++
				want(among(a.End, 2*len(m.Chans)), "an endpoint is not there")
			}
		}
	}
	want(ends == 2*len(m.Chans), "there are not as many arguments as endpoints")
	for end := range 2 * len(m.Chans) {
		want(countOf(m, end) == 1, "an endpoint is not an argument just once")
	}
}

// mixedInsn is an instruction that may be, often one with targets, in a code of so many.
func mixedInsn(r *tables.Row, count int) api.Insn {
	x := codes.Mixed(r)
	if r.Below(5) == 0 {
		x = api.Insn{Op: api.OpJz, L: []int{0}}
	}
	for i := range blocks.Targets(x) {
		x.L[i] = r.Below(count)
	}
	return x
}

// mixedCode is a code of so many instructions in which control goes on as it must, of any templates and nodes.
func mixedCode(r *tables.Row, count int) []api.Insn {
	for range 20 {
		var code []api.Insn
		for i := range count {
			x := mixedInsn(r, count)
			for i < count-1 && blocks.Closes(x.Op) && r.Below(4) > 0 {
				x = mixedInsn(r, count)
			}
			code = append(code, x)
		}
		if _, _, e := blocks.Cut(code); e == api.OK {
			return code
		}
	}
	return append(make([]api.Insn, count-1), api.Insn{Op: api.OpHalt})
}

// fitting is a module that fits, with places.
func fitting(r *tables.Row) api.Module {
	m := api.Module{Nodes: tables.Mixed(r, 1+r.Below(6), 8, 8)}
	for range 1 + r.Below(4) {
		m.Templates = append(m.Templates, mixedTemplate(r, len(m.Nodes)))
	}
	for _, one := range m.Templates {
		for j := range one.Code {
			x := &one.Code[j]
			switch x.Op {
			case api.OpNew:
				x.B = r.Below(len(m.Nodes))
			case api.OpSpawn:
				x.B = r.Below(len(m.Templates))
				x.L = rising(r.Below(9), len(m.Templates[x.B].Params))
			}
		}
	}
	addStarts(r, &m)
	m.NodeAt, m.TemplateAt, m.ChanAt, m.StartAt = rising(1000, len(m.Nodes)), rising(2000, len(m.Templates)), rising(3000, len(m.Chans)), rising(4000, len(m.Starts))
	for i := range m.Templates {
		m.Templates[i].At = rising(5000+200*i, len(m.Templates[i].Code))
	}
	return m
}

// mixedTemplate is a template of any parameters.
func mixedTemplate(r *tables.Row, nodes int) api.Template {
	one := api.Template{Code: mixedCode(r, 1+r.Below(8))}
	for range r.Below(5) {
		p := api.Param{IsChan: r.Below(2) == 0}
		if p.IsChan {
			p.Type = api.Type{Node: r.Below(nodes), Offset: r.Below(1001)}
		}
		one.Params = append(one.Params, p)
	}
	return one
}

// addStarts lays starts, and as many channels as they have endpoints for.
func addStarts(r *tables.Row, m *api.Module) {
	var args []*api.Arg // that are endpoints
	for range r.Below(7) {
		if len(m.Starts) > 6 {
			break
		}
		s := api.Start{Template: r.Below(len(m.Templates))}
		params := m.Templates[s.Template].Params
		s.Args = make([]api.Arg, len(params))
		var more []*api.Arg
		for i, p := range params {
			if s.Args[i].IsChan = p.IsChan; p.IsChan {
				more = append(more, &s.Args[i])
				continue
			}
			s.Args[i].Word = codes.Whole(r)
		}
		// Two starts that are alike have as many endpoints as two sides of channels.
		if len(more)%2 == 0 {
			m.Starts, args = append(m.Starts, s), append(args, more...)
		} else {
			twin := api.Start{Template: s.Template, Args: slices.Clone(s.Args)}
			for i := range twin.Args {
				if twin.Args[i].IsChan {
					more = append(more, &twin.Args[i])
				}
			}
			m.Starts, args = append(m.Starts, s, twin), append(args, more...)
		}
	}
	for i, a := range args {
		j := r.Below(i + 1)
		a.End = args[j].End
		args[j].End = i
	}
	for range len(args) / 2 {
		m.Chans = append(m.Chans, api.Type{Node: r.Below(len(m.Nodes)), Offset: r.Below(1001)})
	}
}

// spoil makes one part of a module another one, twice as often one of its things as a place, or else one of its instructions.
func spoil(r *tables.Row, m *api.Module) {
	if len(m.Templates) > 0 && r.Below(5) == 0 {
		code := m.Templates[r.Below(len(m.Templates))].Code
		if len(code) > 0 {
			code[r.Below(len(code))] = mixedInsn(r, len(code)+1)
			return
		}
	}
	v := reflect.ValueOf(m).Elem()
	v = v.Field([]int{0, 0, 1, 1, 2, 2, 3, 3, 4, 5, 6, 7}[r.Below(12)])
	for {
		switch v.Kind() {
		case reflect.Struct:
			v = v.Field(r.Below(v.NumField()))
		case reflect.Slice:
			if v.Len() == 0 || r.Below(4) == 0 {
				spoilList(r, v)
				return
			}
			v = v.Index(r.Below(v.Len()))
		case reflect.Bool:
			v.SetBool(!v.Bool())
			return
		default:
			odd := tables.OddNumbers()
			v.SetInt([]int64{v.Int() + 1, v.Int() - 1, 0, int64(r.Below(20)), int64(r.Below(1100)), int64(odd[r.Below(len(odd))])}[r.Below(6)])
			return
		}
	}
}

// spoilList takes a thing out of a list, or lays one again, once or often; or there is nothing in it any more.
func spoilList(r *tables.Row, v reflect.Value) {
	if v.Len() == 0 {
		v.Set(reflect.Append(v, reflect.Zero(v.Type().Elem())))
		return
	}
	i := r.Below(v.Len())
	switch r.Below(6) {
	case 0:
		v.SetZero()
	case 1, 2:
		v.Set(reflect.AppendSlice(v.Slice3(0, i, i), v.Slice(i+1, v.Len())))
	default:
		one := v.Index(i)
		l := v.Slice3(0, v.Len(), v.Len())
		for range []int{1, 1, 1, 2, 9, 20}[r.Below(6)] {
			l = reflect.Append(l, one)
		}
		v.Set(l)
	}
}

// P12.1, P12.2

func TestTheChaptersTableOfKnownModules(t *testing.T) {
	for _, m := range []api.Module{{}, bare(), modules.Least(), every(), handsAll(16), handsAll(17)} {
		wantAsTold(t, m)
	}
	for _, w := range wrongs() {
		m := every()
		w.change(&m)
		if code := wantAsTold(t, m); code != w.code {
			t.Errorf("%s: %d", w.row, code)
		}
	}
}

func TestModulesThatFit(t *testing.T) {
	row := tables.Row(12)
	ends, starts, spawns := 0, 0, 0
	for range 4000 {
		m := fitting(&row)
		if code := wantAsTold(t, m); code != api.OK {
			t.Fatalf("%v: %d", m, code)
		}
		ends += 2 * len(m.Chans)
		starts += len(m.Starts)
		for _, one := range m.Templates {
			for _, x := range one.Code {
				if x.Op == api.OpSpawn {
					spawns++
				}
			}
		}
	}
	if ends < 4000 || starts < 4000 || spawns < 400 {
		t.Errorf("just %d endpoints, %d starts, %d spawns", ends, starts, spawns)
	}
}

func TestModulesThatWereSpoilt(t *testing.T) {
	row, met := tables.Row(13), map[api.Errno]int{}
	for range 30000 {
		m := fitting(&row)
		for range 1 + row.Below(3) {
			spoil(&row, &m)
		}
		met[wantAsTold(t, m)]++
	}
	for _, code := range []api.Errno{
		api.OK, api.ErrArg, api.ErrLong, api.ErrKind, api.ErrOpen, api.ErrAlias, api.ErrOrder, api.ErrOp, api.ErrJump, api.ErrDead, api.ErrSilent, api.ErrBoot, api.ErrUsed,
	} {
		if met[code] < 10 {
			t.Errorf("%d is met just so often: %d", code, met[code])
		}
	}
}

// Of modules whose bytes were read each fault stands where the bytes do.
func TestSpoiltModulesThatWereRead(t *testing.T) {
	row, met := tables.Row(14), map[api.Errno]int{}
	for range 20000 {
		m := fitting(&row)
		spoil(&row, &m)
		s, e := module.Put(m)
		if e != api.OK {
			continue
		}
		read, err := module.Read(s)
		if err != nil {
			t.Fatal(told(err))
		}
		code := wantAsTold(t, read)
		if code != api.OK && code != api.ErrBoot && code != api.ErrArg && code != api.ErrLong {
			var f *api.Fault
			if errors.As(limit.Check(read), &f); f.At < 8 || f.At >= len(s) {
				t.Errorf("%d is told at %d of % x", code, f.At, s)
			}
		}
		met[code]++
	}
	for _, code := range []api.Errno{api.OK, api.ErrArg, api.ErrOpen, api.ErrOrder, api.ErrJump, api.ErrBoot, api.ErrUsed} {
		if met[code] < 50 {
			t.Errorf("%d is met just so often: %d", code, met[code])
		}
	}
}

// Whatever numbers stand in a module, something is told.
func TestModulesOfAnySort(t *testing.T) {
	row := tables.Row(15)
	odd := append(tables.OddNumbers(), 0, 0, 0, 0, 1, 1, 1, 2, 2, 3, 4, 5, 16, 63, 64)
	var wild func(v reflect.Value)
	wild = func(v reflect.Value) {
		switch v.Kind() {
		case reflect.Struct:
			for i := range v.NumField() {
				wild(v.Field(i))
			}
		case reflect.Slice:
			v.Set(reflect.MakeSlice(v.Type(), row.Below(4), 8))
			for i := range v.Len() {
				wild(v.Index(i))
			}
		case reflect.Bool:
			v.SetBool(row.Below(2) == 0)
		default:
			v.SetInt(int64(odd[row.Below(len(odd))]))
		}
	}
	for range 3000 {
		// Each part by itself, of a module that fits otherwise, and all of them.
		for i := range reflect.TypeFor[api.Module]().NumField() + 1 {
			m := every()
			if v := reflect.ValueOf(&m).Elem(); i < v.NumField() {
				wild(v.Field(i))
			} else {
				wild(v)
			}
			wantAsTold(t, m)
		}
	}
}

// Lists of any length are looked at, and something is told.
func TestLongLists(t *testing.T) {
	m := bare()
	m.Templates[0].Code = make([]api.Insn, 1<<17)
	wantAsTold(t, m)
	m.Templates[0].Code[1<<17-1].Op = math.MaxInt
	m.Templates[0].At = rising(5, 1<<17)
	wantFault(t, m, api.ErrOp, 4+1<<17)
	m = bare()
	m.Templates[0].Code = []api.Insn{{Op: api.OpSpawn, L: make([]int, 1<<17)}, {Op: api.OpHalt}}
	wantFault(t, m, api.ErrArg, 0)
	m = bare()
	m.Starts = []api.Start{{Args: make([]api.Arg, 1<<17)}}
	wantFault(t, m, api.ErrArg, 0)
	m.Templates[0].Params = make([]api.Param, 1<<17)
	wantFault(t, m, api.ErrLong, 0)
}
