package tables_test

import (
	"slices"
	"testing"

	"colloquy/api"
	"colloquy/tables"
)

// table is one of nodes of several sorts.
func table() []api.Node {
	return []api.Node{
		{},
		tables.Of(api.Select, 3, tables.Far(0, 1), tables.Far(2, 4)),
		tables.OfEnd(api.Send, 5, tables.Far(1, 6), tables.Far(0, 7)),
		tables.Alias(2, 8),
	}
}

func TestNodesAsTheyAreLaid(t *testing.T) {
	want := []api.Node{
		{},
		{Kind: api.Select, Prio: 3, Next: []api.Edge{{To: 0, Shift: 1}, {To: 2, Shift: 4}}},
		{Kind: api.Send, Prio: 5, IsChan: true, Pay: api.Edge{To: 1, Shift: 6}, Next: []api.Edge{{To: 0, Shift: 7}}},
		{Kind: api.Alias, Next: []api.Edge{{To: 2, Shift: 8}}},
	}
	if got := table(); !tables.Same(got, want) {
		t.Errorf("%v, but %v is asked for", got, want)
	}
}

func TestSameLooksAtAll(t *testing.T) {
	for i, change := range []func(l []api.Node){
		func(l []api.Node) { l[1].Kind = api.Branch },
		func(l []api.Node) { l[1].Prio = 4 },
		func(l []api.Node) { l[0].IsChan = true },
		func(l []api.Node) { l[2].Pay.To = 2 },
		func(l []api.Node) { l[2].Pay.Shift = 5 },
		func(l []api.Node) { l[1].Next[1].To = 1 },
		func(l []api.Node) { l[3].Next[0].Shift = 9 },
		func(l []api.Node) { l[1].Next = l[1].Next[:1] },
		func(l []api.Node) { l[0].Next = []api.Edge{{}} },
		func(l []api.Node) { l[0], l[1] = l[1], l[0] },
	} {
		l := table()
		change(l)
		if tables.Same(l, table()) || tables.Same(table(), l) {
			t.Errorf("the change %d is not seen", i)
		}
	}
	if tables.Same(table(), table()[:3]) || tables.Same(nil, table()) {
		t.Error("tables that are not as long are the same")
	}
	if !tables.Same(nil, []api.Node{}) || !tables.Same([]api.Node{{}}, []api.Node{{Next: []api.Edge{}}}) {
		t.Error("an empty list is not like one that is nil")
	}
}

func TestACopySharesNothing(t *testing.T) {
	l := table()
	c := tables.Deep(l)
	if !tables.Same(c, table()) {
		t.Errorf("the copy is %v", c)
	}
	c[0].Prio = 1
	c[1].Next[0] = tables.Far(9, 9)
	if !tables.Same(l, table()) {
		t.Error("the copy shares with what it is of")
	}
}

func TestRoomBehindATable(t *testing.T) {
	l := tables.Roomy(table())
	if !tables.Same(l, table()) || !tables.IsRoomEmpty(l) || !tables.IsRoomEmpty(nil) {
		t.Errorf("with room the table is %v", l)
	}
	for i := range l {
		_ = append(l[i].Next, tables.Far(0, 1))
		if tables.IsRoomEmpty(l) || !tables.Same(l, table()) {
			t.Errorf("what is laid behind the list of %d is not seen", i)
		}
		l = tables.Roomy(table())
	}
	_ = append(l, api.Node{}, api.Node{Prio: 1})
	if tables.IsRoomEmpty(l) || !tables.Same(l, table()) {
		t.Error("what is laid behind the table is not seen")
	}
}

func TestAllTablesOfAPool(t *testing.T) {
	pool := []api.Node{{}, {Prio: 1}, {Prio: 2}}
	var prios []int
	for l := range tables.All(2, pool) {
		if len(l) != 2 {
			t.Fatalf("a table of 2 nodes is %v", l)
		}
		prios = append(prios, 10*l[0].Prio+l[1].Prio)
		l[0].Prio = 9
	}
	if !slices.Equal(prios, []int{0, 1, 2, 10, 11, 12, 20, 21, 22}) {
		t.Errorf("the tables' priorities are %v", prios)
	}
	count := 0
	for range tables.All(2, pool) {
		if count++; count == 4 {
			break
		}
	}
	if count != 4 {
		t.Errorf("%d tables are told, but 4 are asked for", count)
	}
}

func TestARowIsAlwaysTheSame(t *testing.T) {
	first, second, other := tables.Row(3), tables.Row(3), tables.Row(4)
	differs := false
	met := [7]int{}
	for range 1000 {
		n := first.Below(7)
		if n < 0 || n > 6 {
			t.Fatalf("%d is not below 7", n)
		}
		met[n]++
		if second.Below(7) != n {
			t.Fatal("one row is two")
		}
		differs = differs || other.Below(7) != n
	}
	if !differs || slices.Min(met[:]) < 50 {
		t.Errorf("the numbers are met so often: %v; two rows differ: %v", met, differs)
	}
}

func TestAnyNumberIsMostOftenSmall(t *testing.T) {
	r := tables.Row(1)
	small, odd := [9]int{}, map[int]int{}
	for range 5000 {
		if n := tables.Any(&r); n >= -1 && n <= 7 {
			small[n+1]++
		} else {
			odd[n]++
		}
	}
	if slices.Min(small[:]) < 300 || len(odd) < len(tables.OddNumbers())-1 {
		t.Errorf("small ones: %v, others: %v", small, odd)
	}
	for n := range odd {
		if !slices.Contains(tables.OddNumbers(), n) {
			t.Errorf("%d is neither small nor odd", n)
		}
	}
}

func TestMixedTablesAreOfAllKinds(t *testing.T) {
	r := tables.Row(1)
	kinds := [api.LastKind + 1]int{}
	ends := 0
	for range 200 {
		for i, n := range tables.Mixed(&r, 12, 5, 3) {
			kinds[n.Kind]++
			if n.IsChan {
				ends++
			}
			isAlias := n.Kind == api.Alias
			if n.Prio < 0 || n.Prio > 4 || isAlias && n.Next[0].To >= i {
				t.Errorf("the node %d is %v", i, n)
			}
			for _, e := range n.Next {
				if e.To < 0 || e.To > 11 || !isAlias && e.Shift < 3 {
					t.Errorf("the node %d is %v", i, n)
				}
			}
		}
	}
	if slices.Min(kinds[:]) < 50 || ends < 50 {
		t.Errorf("by their kinds: %v; of endpoints: %d", kinds, ends)
	}
}

// A copy's priorities are as much higher as is told, and each of its edges goes to some copy of where it went, and rises as far.
func TestCopiesRiseAsWhatTheyAreOf(t *testing.T) {
	r := tables.Row(2)
	elsewhere := 0
	for range 100 {
		n, count := 1+r.Below(6), 1+r.Below(4)
		base := tables.Mixed(&r, n, 30, 330)
		was := tables.Deep(base)
		l, above := tables.Copies(&r, base, count)
		if !tables.Same(base, was) {
			t.Fatal("the table is changed")
		}
		if len(l) != n*count || len(above) != count {
			t.Fatalf("%d nodes and %d numbers of %d copies of %d nodes", len(l), len(above), count, n)
		}
		for i, copied := range l {
			c, b := i/n, base[i%n]
			rises := above[c]
			if b.Kind == api.End || b.Kind == api.Alias {
				rises = 0
			}
			if copied.Kind != b.Kind || copied.Prio != b.Prio+rises || copied.IsChan != b.IsChan || len(copied.Next) != len(b.Next) {
				t.Errorf("the node %d is %v, a copy of %v", i, copied, b)
				continue
			}
			edges, others := append(copied.Next, copied.Pay), append(b.Next, b.Pay)
			if !b.IsChan {
				edges, others = copied.Next, b.Next
			}
			for j, e := range edges {
				goal := e.To / n
				if e.To%n != others[j].To || e.Shift+above[goal] != others[j].Shift+above[c] {
					t.Errorf("the node %d is %v, a copy of %v", i, copied, b)
				}
				if goal != c {
					elsewhere++
				}
			}
		}
	}
	if elsewhere < 100 {
		t.Errorf("just %d edges go to another copy", elsewhere)
	}
}
