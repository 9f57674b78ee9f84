// Package facts helps the tests of all layers to lay what a verifier leans on, and what it knows.
package facts

import (
	"slices"

	"colloquy/api"
	"colloquy/lists"
	"colloquy/tables"
)

// Word is what is known of a register with a word.
func Word() api.Slot { return api.Slot{Kind: api.Word} }

// Holds is a Chan of a class and a priority.
func Holds(class, prio int) api.Slot { return api.Slot{Kind: api.Chan, Class: class, Prio: prio} }

// Knows is a state of a Level, a Depth, and what is in the first registers.
func Knows(level, depth int, slots ...api.Slot) api.State {
	s := api.State{Level: level, Depth: depth}
	copy(s.Regs[:], slots)
	return s
}

// Roomy is a copy of facts that shares nothing with them, with room behind each of their lists that is not nil.
func Roomy(f api.Facts) api.Facts {
	f.Table, f.Params = RoomyTable(f.Table), lists.Roomy(f.Params)
	for i, slots := range f.Params {
		f.Params[i] = lists.Roomy(slots)
	}
	return f
}

// RoomyTable is a copy of a table of classes that shares nothing with it, with room behind each of its lists that is not nil.
func RoomyTable(x api.Table) api.Table {
	x.Classes, x.Of, x.Prio = lists.Roomy(x.Classes), lists.Roomy(x.Of), lists.Roomy(x.Prio)
	for i, c := range x.Classes {
		x.Classes[i].Next = lists.Roomy(c.Next)
	}
	return x
}

// IsRoomEmpty tells whether nothing was laid in the room behind the lists of facts.
func IsRoomEmpty(f api.Facts) bool {
	x := f.Table
	if !lists.IsRoomEmpty(x.Classes, sameClass) || !lists.IsRoomZero(x.Of) || !lists.IsRoomZero(x.Prio) || !lists.IsRoomEmpty(f.Params, slices.Equal) {
		return false
	}
	for _, c := range x.Classes {
		if !lists.IsRoomZero(c.Next) {
			return false
		}
	}
	for _, slots := range f.Params {
		if !lists.IsRoomZero(slots) {
			return false
		}
	}
	return true
}

// Same tells whether two facts are the same; lists that are nil are like those without elements.
func Same(a, b api.Facts) bool {
	return SameTable(a.Table, b.Table) && slices.EqualFunc(a.Params, b.Params, slices.Equal)
}

// SameTable tells whether two tables of classes are the same; lists that are nil are like those without elements.
func SameTable(a, b api.Table) bool {
	return slices.EqualFunc(a.Classes, b.Classes, sameClass) && slices.Equal(a.Of, b.Of) && slices.Equal(a.Prio, b.Prio)
}

// sameClass tells whether two classes are the same.
func sameClass(a, b api.Class) bool {
	return a.Kind == b.Kind && a.Dual == b.Dual && a.IsChan == b.IsChan && a.Pay == b.Pay && slices.Equal(a.Next, b.Next)
}

// Wild are facts that no layer makes: whatever stands in them, though most numbers are small.
func Wild(r *tables.Row) api.Facts {
	var f api.Facts
	link := func() api.Link { return api.Link{Class: tables.Any(r), Jump: tables.Any(r)} }
	for range r.Below(6) {
		c := api.Class{Kind: tables.Any(r), Dual: tables.Any(r), IsChan: r.Below(2) == 0, Pay: link()}
		for range r.Below(4) {
			c.Next = append(c.Next, link())
		}
		f.Table.Classes = append(f.Table.Classes, c)
	}
	for range r.Below(8) {
		f.Table.Of = append(f.Table.Of, tables.Any(r))
	}
	for range r.Below(8) {
		f.Table.Prio = append(f.Table.Prio, tables.Any(r))
	}
	for range r.Below(4) {
		var slots []api.Slot
		for range r.Below(20) {
			slots = append(slots, WildSlot(r))
		}
		f.Params = append(f.Params, slots)
	}
	return f
}

// WildState is a state in which whatever stands, though most numbers are small.
func WildState(r *tables.Row) api.State {
	s := api.State{Level: tables.Any(r), Depth: tables.Any(r)}
	for i := range s.Regs {
		if r.Below(3) > 0 {
			s.Regs[i] = WildSlot(r)
		}
	}
	return s
}

// WildSlot is a slot in which whatever stands, though it is most often a Chan.
func WildSlot(r *tables.Row) api.Slot {
	x := api.Slot{Kind: api.Chan, Class: tables.Any(r), Prio: tables.Any(r)}
	if r.Below(4) == 0 {
		x.Kind = tables.Any(r)
	}
	return x
}

// State is a state whose slots are such as come up with these facts: words, and Chans of classes that there are, in some of the registers. Its Level and its priorities are from low on, below low and 8.
func State(r *tables.Row, f api.Facts, low int) api.State {
	s := api.State{Level: low + r.Below(8), Depth: r.Below(api.MaxStack + 1)}
	some := 1 + r.Below(4)
	for i := range s.Regs {
		if r.Below(4) < some {
			s.Regs[i] = Slot(r, f, low)
		}
	}
	return s
}

// Slot is a slot that comes up with these facts: nothing, a word, or most often a Chan of a class that there is, with a priority from low on, below low and 8; an End has none.
func Slot(r *tables.Row, f api.Facts, low int) api.Slot {
	x := api.Slot{Kind: []int{api.None, api.Word, api.Chan, api.Chan, api.Chan}[r.Below(5)]}
	if x.Kind != api.Chan {
		return x
	}
	if len(f.Table.Classes) == 0 {
		return api.Slot{}
	}
	x.Class = r.Below(len(f.Table.Classes))
	if f.Table.Classes[x.Class].Kind != api.End {
		x.Prio = low + r.Below(8)
	}
	return x
}
