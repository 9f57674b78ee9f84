package modules_test

import (
	"reflect"
	"slices"
	"testing"

	"colloquy/api"
	"colloquy/module"
	"colloquy/modules"
	"colloquy/order"
	"colloquy/tables"
)

// every is a module in which no list is empty, and no last thing of a list is zero.
func every() api.Module {
	return api.Module{
		Nodes: []api.Node{
			tables.Of(api.Select, 3, tables.Far(0, 1), tables.Far(2, 4)),
			tables.OfEnd(api.Send, 5, tables.Far(1, 6), tables.Far(0, 7)),
		},
		Templates: []api.Template{
			{
				Params: []api.Param{{}, {IsChan: true, Type: api.Type{Node: 1, Offset: 2}}},
				Code:   []api.Insn{{Op: api.OpSpawn, B: 1, L: []int{4, 5}}, {Op: api.OpNew, B: 1, D: 2, L: []int{6, 7}}},
				At:     []int{11, 12},
			},
			{Params: []api.Param{{IsChan: true}}, Code: []api.Insn{{Op: api.OpJump, L: []int{1}}}, At: []int{13}},
		},
		Chans:      []api.Type{{Node: 1, Offset: 3}, {Node: 2}},
		Starts:     []api.Start{{Template: 1, Args: []api.Arg{{Word: 8}, {IsChan: true, End: 9}}}, {Args: []api.Arg{{Word: 1}}}},
		NodeAt:     []int{21, 22},
		TemplateAt: []int{23},
		ChanAt:     []int{24},
		StartAt:    []int{25, 26},
	}
}

// eachValue tells all that a value holds, and itself.
func eachValue(v reflect.Value, tell func(v reflect.Value)) {
	tell(v)
	switch v.Kind() {
	case reflect.Struct:
		for i := range v.NumField() {
			eachValue(v.Field(i), tell)
		}
	case reflect.Slice:
		for i := range v.Len() {
			eachValue(v.Index(i), tell)
		}
	}
}

// changes are ways to make another module of one: each of its numbers, marks and lists is another one.
func changes(m *api.Module) []func() {
	var l []func()
	eachValue(reflect.ValueOf(m).Elem(), func(v reflect.Value) {
		switch v.Kind() {
		case reflect.Int, reflect.Int64:
			l = append(l, func() { v.SetInt(v.Int() + 1) })
		case reflect.Bool:
			l = append(l, func() { v.SetBool(!v.Bool()) })
		case reflect.Slice:
			l = append(l, func() { v.Set(reflect.Append(v, reflect.Zero(v.Type().Elem()))) })
			if v.Len() > 0 {
				l = append(l, func() { v.Set(v.Slice(0, v.Len()-1)) }, func() { v.SetZero() })
			}
		}
	})
	return l
}

func TestTheLeastModule(t *testing.T) {
	s, e := module.Put(modules.Least())
	if want := "CLQY\x01" + "\x01\x02\x01\x00" + "\x02\x04\x01\x00\x01\x18" + "\x03\x04\x00\x01\x00\x00"; s != want || e != api.OK {
		t.Errorf("the bytes of the least module are % x, %d", s, e)
	}
}

func TestModulesThatAsk(t *testing.T) {
	if p := modules.Asks(3, 4); p != (api.Param{IsChan: true, Type: api.Type{Node: 3, Offset: 4}}) {
		t.Errorf("a parameter that is an endpoint is %v", p)
	}
	r := tables.Row(1)
	long, words, ends := [api.MaxParams + 1]int{}, 0, 0
	for range 1000 {
		m := modules.Asking(&r)
		if _, e := order.Check(m.Nodes); e != api.OK {
			t.Fatalf("the nodes %v: %d", m.Nodes, e)
		}
		for _, one := range m.Templates {
			long[len(one.Params)]++
			for _, p := range one.Params {
				switch {
				case p == api.Param{}:
					words++
				case !p.IsChan || p.Type.Node < 0 || p.Type.Node >= len(m.Nodes) || p.Type.Offset < 0:
					t.Errorf("of %d nodes a parameter is %v", len(m.Nodes), p)
				default:
					ends++
				}
			}
		}
	}
	if slices.Min(long[:]) < 50 || words < 1000 || ends < 1000 {
		t.Errorf("by how many parameters they have: %v; words: %d, endpoints: %d", long, words, ends)
	}
}

func TestSameLooksAtAll(t *testing.T) {
	if !modules.Same(every(), every()) {
		t.Error("a module is not the same as itself")
	}
	m := every()
	count := len(changes(&m))
	if count < 100 {
		t.Errorf("just %d changes", count)
	}
	for i := range count {
		m := every()
		changes(&m)[i]()
		if modules.Same(m, every()) || modules.Same(every(), m) {
			t.Errorf("the change %d is not seen: %v", i, m)
		}
	}
	empty := api.Module{Nodes: []api.Node{}, Templates: []api.Template{}, Chans: []api.Type{}, Starts: []api.Start{}, NodeAt: []int{}}
	if !modules.Same(empty, api.Module{}) {
		t.Error("an empty list is not like one that is nil")
	}
}

func TestACopySharesNothing(t *testing.T) {
	m := every()
	c := modules.Roomy(m)
	if !reflect.DeepEqual(c, every()) {
		t.Errorf("the copy is %v", c)
	}
	eachValue(reflect.ValueOf(&c).Elem(), func(v reflect.Value) {
		switch v.Kind() {
		case reflect.Int, reflect.Int64:
			v.SetInt(v.Int() + 1)
		case reflect.Slice:
			if !v.IsNil() && v.Cap() == v.Len() {
				t.Errorf("there is no room behind a list of %v", v.Type())
			}
		}
	})
	if !modules.Same(m, every()) {
		t.Error("the copy shares with what it is of")
	}
	if none := modules.Roomy(api.Module{}); !reflect.DeepEqual(none, api.Module{}) {
		t.Errorf("the copy of nothing is %v", none)
	}
}

func TestRoomBehindAModule(t *testing.T) {
	if !modules.IsRoomEmpty(modules.Roomy(every())) || !modules.IsRoomEmpty(api.Module{}) {
		t.Error("something is laid behind a list")
	}
	count := 0
	eachValue(reflect.ValueOf(every()), func(v reflect.Value) {
		if v.Kind() == reflect.Slice && !v.IsNil() {
			count++
		}
	})
	for i := range count {
		m := modules.Roomy(every())
		met := 0
		eachValue(reflect.ValueOf(m), func(v reflect.Value) {
			if v.Kind() != reflect.Slice || v.IsNil() {
				return
			}
			if met == i {
				// A whole one behind the list: what is laid is not zero.
				reflect.Append(v, v.Index(v.Len()-1))
			}
			met++
		})
		if modules.IsRoomEmpty(m) || !modules.Same(m, every()) {
			t.Errorf("what is laid behind the list %d is not seen", i)
		}
	}
}
