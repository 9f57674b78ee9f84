package state_test

import (
	"slices"
	"testing"

	"colloquy/api"
	"colloquy/class"
	"colloquy/facts"
	"colloquy/modules"
	"colloquy/state"
	"colloquy/tables"
)

// What the chapter's words say, read plainly, of any facts and states

func factsPlainly(m api.Module) (api.Facts, api.Errno) {
	table, e := class.Of(m.Nodes)
	if e != api.OK {
		return api.Facts{}, e
	}
	f := api.Facts{Table: table}
	for _, one := range m.Templates {
		slots := []api.Slot{}
		for _, p := range one.Params {
			if !p.IsChan {
				slots = append(slots, word)
				continue
			}
			if p.Type.Node < 0 || p.Type.Node > len(m.Nodes)-1 {
				return api.Facts{}, api.ErrArg
			}
			number, prio := class.Type(table, p.Type)
			slots = append(slots, holds(number, prio))
		}
		if len(slots) > 8 {
			return api.Facts{}, api.ErrArg
		}
		f.Params = append(f.Params, slots)
	}
	return f, api.OK
}

func isBusyPlainly(f api.Facts, x api.Slot) bool {
	for number, c := range f.Table.Classes {
		if number == x.Class && c.Kind != api.End {
			return x.Kind == api.Chan
		}
	}
	return false
}

// priosPlainly are the priorities of a state's busy registers.
func priosPlainly(f api.Facts, s api.State) []int {
	var l []int
	for _, x := range s.Regs {
		if isBusyPlainly(f, x) {
			l = append(l, x.Prio)
		}
	}
	return l
}

func raisedPlainly(f api.Facts, s api.State) api.State {
	if l := priosPlainly(f, s); len(l) > 0 {
		s.Level = slices.Min(l)
	}
	return s
}

func entryPlainly(f api.Facts, template int) api.State {
	for i, slots := range f.Params {
		if i == template {
			return raisedPlainly(f, knows(0, 0, slots...))
		}
	}
	return api.State{}
}

// isFurtherPlainly tells whether b is a, further by some number.
func isFurtherPlainly(f api.Facts, a, b api.State, by int) bool {
	if b.Level != a.Level+by || b.Depth != a.Depth {
		return false
	}
	for i, x := range a.Regs {
		y := b.Regs[i]
		if isBusyPlainly(f, x) {
			x.Prio += by
		}
		if x.Kind != y.Kind || x.Class != y.Class || x.Prio != y.Prio {
			return false
		}
	}
	return true
}

// shiftPlainly tries each number by which something of b is above that of a.
func shiftPlainly(f api.Facts, a, b api.State) (int, bool) {
	tries := []int{0, b.Level - a.Level}
	for i, x := range a.Regs {
		tries = append(tries, b.Regs[i].Prio-x.Prio)
	}
	for _, by := range tries {
		if isFurtherPlainly(f, a, b, by) {
			return by, true
		}
	}
	return 0, false
}

// wantAsTold holds what is told of a state, and of another one, against the plain reading.
func wantAsTold(t *testing.T, f api.Facts, a, b api.State) (by int, isFurther bool) {
	t.Helper()
	for _, x := range a.Regs {
		wantBusy(t, "any", f, x, isBusyPlainly(f, x))
	}
	least, isThere := 0, false
	if l := priosPlainly(f, a); len(l) > 0 {
		least, isThere = slices.Min(l), true
	}
	wantRaised(t, "any", f, a, least, isThere)
	if state.Same(a, b) != (a == b) {
		t.Errorf("Same of %v and %v: %v", a, b, a != b)
	}
	by, isFurther = shiftPlainly(f, a, b)
	wantShift(t, "any", f, a, b, by, isFurther)
	if t.Failed() {
		t.FailNow()
	}
	return by, isFurther
}

// spoil makes something of a module another thing.
func spoil(r *tables.Row, m *api.Module) {
	n := len(m.Nodes)
	if len(m.Templates) == 0 || r.Below(3) == 0 {
		m.Nodes[r.Below(n)] = of(r.Below(7), r.Below(9), far(r.Below(n+1), r.Below(9)))
		return
	}
	params := &m.Templates[r.Below(len(m.Templates))].Params
	odd := tables.OddNumbers()
	for range []int{1, 1, 1, 9}[r.Below(4)] {
		p := asks([]int{r.Below(n), n, n + r.Below(n), odd[r.Below(len(odd))]}[r.Below(4)], odd[r.Below(len(odd))])
		p.IsChan = r.Below(4) > 0
		*params = slices.Insert(*params, r.Below(len(*params)+1), p)
	}
}

// P13.1, P13.2

func TestMixedModules(t *testing.T) {
	row, met := tables.Row(131), map[api.Errno]int{}
	busy, idle := 0, 0
	for range 6000 {
		m := modules.Asking(&row)
		if row.Below(3) == 0 {
			spoil(&row, &m)
		}
		want, code := factsPlainly(m)
		met[code]++
		if code != api.OK {
			wantError(t, "a mixed module", m, code)
			continue
		}
		wantFacts(t, "a mixed module", m, want)
		for template := -1; template <= len(m.Templates); template++ {
			entry := entryPlainly(want, template)
			wantEntry(t, "a mixed module", want, template, entry)
			if len(priosPlainly(want, entry)) > 0 {
				busy++
			} else {
				idle++
			}
		}
		if t.Failed() {
			t.Fatalf("of the module %v", m)
		}
	}
	for _, code := range []api.Errno{api.OK, api.ErrArg, api.ErrKind, api.ErrOpen, api.ErrOrder} {
		if met[code] < 20 {
			t.Errorf("%d is met just so often: %d", code, met[code])
		}
	}
	if busy < 2000 || idle < 2000 {
		t.Errorf("%d entry states have busy registers, %d have none", busy, idle)
	}
}

// If all Offsets of a template rise by some number, its entry state is further by it, or the same one, if nothing in it is busy.
func TestEntriesOfHigherParams(t *testing.T) {
	row, met := tables.Row(132), [2]int{}
	for range 2000 {
		m := modules.Asking(&row)
		f, e := state.Facts(m)
		if e != api.OK {
			t.Fatalf("%v: %d", m, e)
		}
		by := row.Below(900)
		for _, one := range m.Templates {
			for i := range one.Params {
				one.Params[i].Type.Offset += by
			}
		}
		above, e := state.Facts(m)
		if e != api.OK || !facts.SameTable(f.Table, above.Table) {
			t.Fatalf("%v: %d, with the table %v in the place of %v", m, e, above.Table, f.Table)
		}
		for template := range m.Templates {
			a, b := state.Entry(f, template), state.Entry(above, template)
			want := by
			if _, isBusy := state.Least(f, a); isBusy {
				met[1]++
			} else {
				want = 0
				met[0]++
			}
			wantShift(t, "higher parameters", f, a, b, want, true)
		}
	}
	if slices.Min(met[:]) < 300 {
		t.Errorf("by whether something is busy: %v", met)
	}
}

// P13.2, P13.3

// changed is a state of which some one thing is another, or none.
func changed(r *tables.Row, s api.State) api.State {
	x := &s.Regs[r.Below(api.MaxRegs)]
	switch r.Below(8) {
	case 0:
		s.Level += r.Below(5) - 2
	case 1:
		s.Depth += r.Below(3) - 1
	case 2:
		x.Kind = r.Below(3)
	case 3:
		x.Class += r.Below(3) - 1
	case 4:
		x.Prio += r.Below(5) - 2
	}
	return s
}

func TestMixedStates(t *testing.T) {
	row := tables.Row(133)
	var same, further, below, others int
	for range 6000 {
		f, e := state.Facts(modules.Asking(&row))
		if e != api.OK {
			t.Fatal(e)
		}
		a := facts.State(&row, f, row.Below(3)*100)
		b := changed(&row, shifted(f, a, row.Below(5)-2))
		if row.Below(10) == 0 {
			b = facts.State(&row, f, 0)
		}
		switch by, isFurther := wantAsTold(t, f, a, b); {
		case !isFurther:
			others++
		case by == 0:
			same++
		case by > 0:
			further++
		default:
			below++
		}
	}
	if min(same, further, below, others) < 300 {
		t.Errorf("the same: %d, further: %d, below: %d, others: %d", same, further, below, others)
	}
}

// Whatever stands in facts and states, something is told.
func TestWildFactsAndStates(t *testing.T) {
	row := tables.Row(134)
	further, busy := 0, 0
	for range 6000 {
		f := facts.Wild(&row)
		a := facts.WildState(&row)
		wantAsTold(t, f, a, facts.WildState(&row))
		wantAsTold(t, f, a, a)
		odd := tables.OddNumbers()
		b := changed(&row, shifted(f, a, odd[row.Below(len(odd))]))
		if by, isFurther := wantAsTold(t, f, a, b); isFurther && by != 0 {
			further++
			if len(priosPlainly(f, a)) > 0 {
				busy++
			}
		}
		for _, template := range append(odd, 0, 1, 2, 3, 4) {
			wantEntry(t, "wild facts", f, template, entryPlainly(f, template))
		}
	}
	if further < 1000 || busy < 500 {
		t.Errorf("%d states are further, %d with something busy", further, busy)
	}
}

// P13.4

func TestWhatIsRaisedStays(t *testing.T) {
	row, met := tables.Row(135), [2]int{}
	for range 4000 {
		f, s := facts.Wild(&row), facts.WildState(&row)
		if row.Below(2) == 0 {
			s = facts.State(&row, f, 0)
		}
		once := state.Raise(f, s)
		if again := state.Raise(f, once); !state.Same(again, once) {
			t.Fatalf("%v, raised, is %v, and raised again %v", s, once, again)
		}
		if state.Same(once, s) {
			met[0]++
		} else {
			met[1]++
		}
	}
	if slices.Min(met[:]) < 500 {
		t.Errorf("by whether they are raised already: %v", met)
	}
	f := talkFacts([]api.Slot{holds(sends, 9)}, []api.Slot{word, holds(sends, 9), holds(receives, 8)}, []api.Slot{}, []api.Slot{holds(ended, 0)})
	for template, slots := range f.Params {
		if entry := state.Entry(f, template); !state.Same(state.Raise(f, entry), entry) {
			t.Errorf("the entry state of %v is not raised: %v", slots, entry)
		}
	}
}

// A state that is further by t, and raised, is the one that is raised, and further by t, if something is busy. If nothing is, each stays as it is.
func TestFurtherAndRaised(t *testing.T) {
	row, met := tables.Row(136), [2]int{}
	for range 6000 {
		f, e := state.Facts(modules.Asking(&row))
		if e != api.OK {
			t.Fatal(e)
		}
		a, by := facts.State(&row, f, 100), row.Below(200)-100
		b := shifted(f, a, by)
		wantShift(t, "further", f, a, b, by, true)
		high, low := state.Raise(f, b), state.Raise(f, a)
		if _, isBusy := state.Least(f, a); isBusy {
			wantShift(t, "further and raised", f, low, high, by, true)
			if !state.Same(high, shifted(f, low, by)) {
				t.Errorf("%v, further by %d and raised, is %v, but raised and further %v", a, by, high, shifted(f, low, by))
			}
			met[1]++
			continue
		}
		if !state.Same(high, b) || !state.Same(low, a) {
			t.Errorf("%v and %v, in which nothing is busy, are raised: %v, %v", a, b, low, high)
		}
		met[0]++
	}
	if slices.Min(met[:]) < 300 {
		t.Errorf("by whether something is busy: %v", met)
	}
}

func TestWaysAddUp(t *testing.T) {
	row := tables.Row(137)
	odd := append(tables.OddNumbers(), 0, 1, 2, 3, -3, 100, 1000)
	busy := 0
	for range 6000 {
		f := facts.Wild(&row)
		a := facts.State(&row, f, 0)
		if row.Below(3) == 0 {
			a = facts.WildState(&row)
		}
		one, two := odd[row.Below(len(odd))], odd[row.Below(len(odd))]
		b := shifted(f, a, one)
		c := shifted(f, b, two)
		wantShift(t, "the first way", f, a, b, one, true)
		wantShift(t, "the second way", f, b, c, two, true)
		wantShift(t, "both ways", f, a, c, one+two, true)
		wantShift(t, "the way back", f, b, a, -one, true)
		wantShift(t, "no way", f, a, a, 0, true)
		if state.Same(a, b) != (one == 0) {
			t.Errorf("%v, further by %d, is %v", a, one, b)
		}
		if len(priosPlainly(f, a)) > 0 {
			busy++
		}
		if t.Failed() {
			t.FailNow()
		}
	}
	if busy < 2000 {
		t.Errorf("in just %d states something is busy", busy)
	}
}
