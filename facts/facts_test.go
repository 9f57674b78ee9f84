package facts_test

import (
	"reflect"
	"slices"
	"testing"

	"colloquy/api"
	"colloquy/facts"
	"colloquy/tables"
)

// every are facts in which no list is empty, and no last thing of a list is zero.
func every() api.Facts {
	return api.Facts{
		Table: api.Table{
			Classes: []api.Class{
				{Kind: api.End, Dual: 0, Next: []api.Link{{Class: 3}}},
				{Kind: api.Send, Dual: 2, IsChan: true, Pay: api.Link{Class: 1, Jump: 4}, Next: []api.Link{{Class: 5, Jump: 6}, {Class: 7}}},
			},
			Of:   []int{8, 9},
			Prio: []int{10},
		},
		Params: [][]api.Slot{{{Kind: api.Word}}, {{Kind: api.Chan, Class: 11, Prio: 12}, {Kind: api.Word}}},
	}
}

// eachValue tells all that a value holds, and itself.
func eachValue(v reflect.Value, tell func(v reflect.Value)) {
	tell(v)
	switch v.Kind() {
	case reflect.Struct:
		for i := range v.NumField() {
			eachValue(v.Field(i), tell)
		}
	case reflect.Slice:
		for i := range v.Len() {
			eachValue(v.Index(i), tell)
		}
	}
}

// changes are ways to make others of facts: each of their numbers, marks and lists is another one.
func changes(f *api.Facts) []func() {
	var l []func()
	eachValue(reflect.ValueOf(f).Elem(), func(v reflect.Value) {
		switch v.Kind() {
		case reflect.Int:
			l = append(l, func() { v.SetInt(v.Int() + 1) })
		case reflect.Bool:
			l = append(l, func() { v.SetBool(!v.Bool()) })
		case reflect.Slice:
			l = append(l, func() { v.Set(reflect.Append(v, reflect.Zero(v.Type().Elem()))) }, func() { v.Set(v.Slice(0, v.Len()-1)) })
		}
	})
	return l
}

func TestSameLooksAtAll(t *testing.T) {
	if !facts.Same(every(), every()) || !facts.SameTable(every().Table, every().Table) {
		t.Error("facts are not the same as themselves")
	}
	f := every()
	count, others := len(changes(&f)), 0
	for i := range count {
		f := every()
		changes(&f)[i]()
		if facts.Same(f, every()) || facts.Same(every(), f) {
			t.Errorf("the change %d is not seen: %v", i, f)
		}
		if !facts.SameTable(f.Table, every().Table) {
			others++
		}
	}
	if count < 40 || others < 20 || others == count {
		t.Errorf("%d changes, %d of the table", count, others)
	}
	empty := api.Facts{Table: api.Table{Classes: []api.Class{}, Of: []int{}, Prio: []int{}}, Params: [][]api.Slot{}}
	if !facts.Same(empty, api.Facts{}) {
		t.Error("an empty list is not like one that is nil")
	}
}

func TestACopySharesNothing(t *testing.T) {
	f := every()
	c := facts.Roomy(f)
	if !reflect.DeepEqual(c, every()) {
		t.Errorf("the copy is %v", c)
	}
	eachValue(reflect.ValueOf(&c).Elem(), func(v reflect.Value) {
		switch v.Kind() {
		case reflect.Int:
			v.SetInt(v.Int() + 1)
		case reflect.Slice:
			if v.Cap() == v.Len() {
				t.Errorf("there is no room behind a list of %v", v.Type())
			}
		}
	})
	if !facts.Same(f, every()) {
		t.Error("the copy shares with what it is of")
	}
	if none := facts.Roomy(api.Facts{}); !reflect.DeepEqual(none, api.Facts{}) {
		t.Errorf("the copy of nothing is %v", none)
	}
}

func TestRoomBehindFacts(t *testing.T) {
	if !facts.IsRoomEmpty(facts.Roomy(every())) || !facts.IsRoomEmpty(api.Facts{}) {
		t.Error("something is laid behind a list")
	}
	count := 0
	eachValue(reflect.ValueOf(every()), func(v reflect.Value) {
		if v.Kind() == reflect.Slice {
			count++
		}
	})
	for i := range count {
		f := facts.Roomy(every())
		met := 0
		eachValue(reflect.ValueOf(f), func(v reflect.Value) {
			if v.Kind() != reflect.Slice {
				return
			}
			if met == i {
				reflect.Append(v, v.Index(v.Len()-1))
			}
			met++
		})
		if facts.IsRoomEmpty(f) || !facts.Same(f, every()) {
			t.Errorf("what is laid behind the list %d is not seen", i)
		}
	}
}

func TestSlotsAndStatesByHand(t *testing.T) {
	if x := facts.Word(); x != (api.Slot{Kind: api.Word}) {
		t.Errorf("a word is %v", x)
	}
	if x := facts.Holds(3, 4); x != (api.Slot{Kind: api.Chan, Class: 3, Prio: 4}) {
		t.Errorf("a Chan is %v", x)
	}
	s := facts.Knows(5, 6, facts.Word(), api.Slot{}, facts.Holds(3, 4))
	want := api.State{Level: 5, Depth: 6, Regs: [api.MaxRegs]api.Slot{0: {Kind: api.Word}, 2: {Kind: api.Chan, Class: 3, Prio: 4}}}
	if s != want {
		t.Errorf("a state is %v", s)
	}
	if s := facts.Knows(0, 0, slices.Repeat([]api.Slot{facts.Word()}, 20)...); s.Regs[15] != facts.Word() {
		t.Errorf("a state of too many slots is %v", s)
	}
}

func TestWildFactsAreOfAnySort(t *testing.T) {
	r := tables.Row(1)
	kinds, beyond, long, odd := map[int]int{}, 0, 0, 0
	for range 500 {
		f, s := facts.Wild(&r), facts.WildState(&r)
		for _, c := range f.Table.Classes {
			kinds[c.Kind]++
			if c.Dual < 0 || c.Dual >= len(f.Table.Classes) {
				beyond++
			}
		}
		for _, slots := range f.Params {
			if len(slots) > api.MaxRegs {
				long++
			}
		}
		for _, x := range s.Regs {
			if x.Kind < api.None || x.Kind > api.Chan {
				odd++
			}
		}
	}
	if kinds[api.End] < 50 || kinds[api.Send] < 50 || kinds[api.Alias] < 50 || kinds[-1] < 50 || beyond < 100 || long < 50 || odd < 100 {
		t.Errorf("by their kinds: %v; beyond: %d, long: %d, odd: %d", kinds, beyond, long, odd)
	}
}

func TestStatesOfFacts(t *testing.T) {
	r := tables.Row(2)
	f := every()
	kinds, ends := [3]int{}, 0
	depths, levels := [api.MaxStack + 1]int{}, [8]int{}
	for range 500 {
		s := facts.State(&r, f, 20)
		depths[s.Depth]++
		levels[s.Level-20]++
		for _, x := range s.Regs {
			kinds[x.Kind]++
			switch {
			case x.Kind != api.Chan && x != (api.Slot{Kind: x.Kind}), x.Kind == api.Chan && x.Class == 0 && x.Prio != 0:
				t.Errorf("a slot is %v", x)
			case x.Kind == api.Chan && x.Class == 0:
				ends++
			case x.Kind == api.Chan && (x.Class != 1 || x.Prio < 20 || x.Prio > 27):
				t.Errorf("a Chan is %v", x)
			}
		}
		for _, x := range facts.State(&r, api.Facts{}, 0).Regs {
			if x.Kind == api.Chan {
				t.Error("a Chan of no class comes up")
			}
		}
	}
	if slices.Min(kinds[:]) < 500 || ends < 500 || slices.Min(depths[:]) < 5 || slices.Min(levels[:]) < 20 {
		t.Errorf("by their kinds: %v, Ends: %d; by Depths: %v, by Levels: %v", kinds, ends, depths, levels)
	}
}
