package dual_test

import (
	"math"
	"testing"

	"colloquy/api"
	"colloquy/dual"
	"colloquy/graph"
	"colloquy/tables"
)

// How tables are laid, and held against each other.
var (
	far, of, ofEnd, alias  = tables.Far, tables.Of, tables.OfEnd, tables.Alias
	deep, same, oddNumbers = tables.Deep, tables.Same, tables.OddNumbers
)

// join is the nodes of both tables, one behind the other.
func join(a, b []api.Node) []api.Node { return append(deep(a), b...) }

// wantTable asks for the dual table of nodes: they are its first half, and this is its second one.
func wantTable(t *testing.T, what string, nodes, second []api.Node) {
	t.Helper()
	was := deep(nodes)
	want := join(nodes, second)
	for range 2 {
		if got := dual.Table(nodes); !same(got, want) {
			t.Errorf("%s: %v, but %v is asked for", what, got, want)
		}
	}
	if !same(nodes, was) {
		t.Errorf("%s: what was handed in is changed", what)
	}
}

// wantNothing asks for no dual table, as graph.Check of the nodes answers this error.
func wantNothing(t *testing.T, what string, nodes []api.Node, e api.Errno) {
	t.Helper()
	was := deep(nodes)
	if _, wrong := graph.Check(nodes); wrong != e {
		t.Fatalf("%s: graph.Check: %d, but %d is asked for", what, wrong, e)
	}
	for range 2 {
		if got := dual.Table(nodes); len(got) != 0 {
			t.Errorf("%s: %v, but nothing is asked for", what, got)
		}
	}
	if !same(nodes, was) {
		t.Errorf("%s: what was handed in is changed", what)
	}
}

func wantMate(t *testing.T, n, node, mate int) {
	t.Helper()
	for range 2 {
		if got := dual.Mate(n, node); got != mate {
			t.Errorf("Mate of %d, of %d nodes: %d, but %d is asked for", node, n, got, mate)
		}
	}
}

// wantMates asks for the same of two types and of the two the other way round.
func wantMates(t *testing.T, what string, two []api.Node, a, b api.Type, are bool) {
	t.Helper()
	was := deep(two)
	for range 2 {
		if got := dual.Mates(two, a, b); got != are {
			t.Errorf("%s: Mates of %v and %v: %v", what, a, b, got)
		}
		if got := dual.Mates(two, b, a); got != are {
			t.Errorf("%s: Mates of %v and %v: %v", what, b, a, got)
		}
	}
	if !same(two, was) {
		t.Errorf("%s: what was handed in is changed", what)
	}
}

// at is the type of a node at an Offset.
func at(node, offset int) api.Type { return api.Type{Node: node, Offset: offset} }

// The chapter's examples

func TestExamples(t *testing.T) {
	wantTable(t, "a Send of a word", []api.Node{of(api.Send, 3, far(1, 2)), {}}, []api.Node{of(api.Recv, 3, far(3, 2)), {}})
	wantTable(t, "a Recv of an endpoint",
		[]api.Node{ofEnd(api.Recv, 0, far(1, 4), far(0, 1)), {}},
		[]api.Node{ofEnd(api.Send, 0, far(1, 4), far(2, 1)), {}})
	wantNothing(t, "none", nil, api.ErrArg)
}

// P6.1, Table

func TestEachKindAndItsDual(t *testing.T) {
	wantTable(t, "an End", []api.Node{{}}, []api.Node{{}})
	wantTable(t, "a Send", []api.Node{of(api.Send, 4, far(0, 6))}, []api.Node{of(api.Recv, 4, far(1, 6))})
	wantTable(t, "a Recv", []api.Node{of(api.Recv, 4, far(0, 6))}, []api.Node{of(api.Send, 4, far(1, 6))})
	wantTable(t, "a Select", []api.Node{of(api.Select, 4, far(0, 6))}, []api.Node{of(api.Branch, 4, far(1, 6))})
	wantTable(t, "a Branch", []api.Node{of(api.Branch, 4, far(0, 6))}, []api.Node{of(api.Select, 4, far(1, 6))})
	wantTable(t, "an Alias", []api.Node{{}, alias(0, 6)}, []api.Node{{}, alias(2, 6)})
	wantTable(t, "a Send of an endpoint", []api.Node{ofEnd(api.Send, 4, far(0, 5), far(0, 6))}, []api.Node{ofEnd(api.Recv, 4, far(0, 5), far(1, 6))})
	wantTable(t, "a Recv of an endpoint", []api.Node{ofEnd(api.Recv, 4, far(0, 5), far(0, 6))}, []api.Node{ofEnd(api.Send, 4, far(0, 5), far(1, 6))})
}

func TestAllKindsInOneTable(t *testing.T) {
	wantTable(t, "all kinds",
		[]api.Node{
			of(api.Select, 1, far(1, 2), far(4, 0), far(5, 1000)),
			of(api.Send, 2, far(2, 0)),
			ofEnd(api.Recv, 3, far(3, 7), far(5, 9)),
			of(api.Branch, 1000, far(0, 1), far(1, 2), far(2, 3), far(3, 4), far(4, 5), far(5, 6), far(0, 7), far(1, 8)),
			{},
			alias(6, 3),
			ofEnd(api.Send, 0, far(6, 0), far(4, 0)),
			of(api.Recv, 9, far(5, 0)),
		},
		[]api.Node{
			of(api.Branch, 1, far(9, 2), far(12, 0), far(13, 1000)),
			of(api.Recv, 2, far(10, 0)),
			ofEnd(api.Send, 3, far(3, 7), far(13, 9)),
			of(api.Select, 1000, far(8, 1), far(9, 2), far(10, 3), far(11, 4), far(12, 5), far(13, 6), far(8, 7), far(9, 8)),
			{},
			alias(14, 3),
			ofEnd(api.Recv, 0, far(6, 0), far(12, 0)),
			of(api.Send, 9, far(13, 0)),
		})
}

func TestPrioritiesAndShiftsStay(t *testing.T) {
	for _, number := range []int{0, 1, 2, 500, 999, 1000} {
		wantTable(t, "a priority", []api.Node{of(api.Send, number, far(1, 0)), {}}, []api.Node{of(api.Recv, number, far(3, 0)), {}})
		wantTable(t, "a shift", []api.Node{of(api.Branch, 7, far(0, 3), far(1, number)), {}}, []api.Node{of(api.Select, 7, far(2, 3), far(3, number)), {}})
		wantTable(t, "an alias's shift", []api.Node{{}, alias(0, number)}, []api.Node{{}, alias(2, number)})
		wantTable(t, "a payload's shift",
			[]api.Node{ofEnd(api.Send, 7, far(1, number), far(1, 3)), {}},
			[]api.Node{ofEnd(api.Recv, 7, far(1, number), far(3, 3)), {}})
	}
}

// What is handed over is no dual: the payload's edge goes to the first half, wherever it goes.
func TestPayloadsStay(t *testing.T) {
	for pay := range 4 {
		wantTable(t, "a payload",
			[]api.Node{{}, ofEnd(api.Send, 1, far(pay, 2), far(2, 0)), ofEnd(api.Recv, 3, far(pay, 0), far(1, 4)), alias(1, 5)},
			[]api.Node{{}, ofEnd(api.Recv, 1, far(pay, 2), far(6, 0)), ofEnd(api.Send, 3, far(pay, 0), far(5, 4)), alias(5, 5)})
	}
}

// Where all edges go to the node 0, those of endpoints and words look alike but for IsChan.
func TestWordsStayWords(t *testing.T) {
	wantTable(t, "a word, and an endpoint of the node 0",
		[]api.Node{of(api.Send, 1, far(0, 0)), ofEnd(api.Send, 1, far(0, 0), far(0, 0)), of(api.Recv, 1, far(0, 0)), ofEnd(api.Recv, 1, far(0, 0), far(0, 0))},
		[]api.Node{of(api.Recv, 1, far(4, 0)), ofEnd(api.Recv, 1, far(0, 0), far(4, 0)), of(api.Send, 1, far(4, 0)), ofEnd(api.Send, 1, far(0, 0), far(4, 0))})
}

func TestEachOfSeveralEdgesGoesFurther(t *testing.T) {
	for _, kinds := range [][2]int{{api.Select, api.Branch}, {api.Branch, api.Select}} {
		for count := 1; count <= api.MaxLabels; count++ {
			var next, further []api.Edge
			for i := range count {
				next = append(next, far(i%3, 10*i))
				further = append(further, far(3+i%3, 10*i))
			}
			wantTable(t, "edges", []api.Node{{}, of(kinds[0], 5, next...), {}}, []api.Node{{}, of(kinds[1], 5, further...), {}})
		}
	}
}

func TestAliasesOfAliases(t *testing.T) {
	wantTable(t, "ahead", []api.Node{alias(1, 2), alias(2, 3), {}}, []api.Node{alias(4, 2), alias(5, 3), {}})
	wantTable(t, "behind", []api.Node{of(api.Recv, 0, far(2, 1)), alias(0, 0), alias(1, 4)}, []api.Node{of(api.Send, 0, far(5, 1)), alias(3, 0), alias(4, 4)})
}

// round is a table of n nodes of all kinds that act, each of which goes on to the next one, the last one to the first one; behind it its second half.
func round(n int) (nodes, second []api.Node) {
	kinds := []int{api.Send, api.Recv, api.Select, api.Branch}
	duals := []int{api.Recv, api.Send, api.Branch, api.Select}
	for i := range n {
		goal := (i + 1) % n
		nodes = append(nodes, of(kinds[i%4], i, far(goal, 3*i)))
		second = append(second, of(duals[i%4], i, far(n+goal, 3*i)))
	}
	return nodes, second
}

func TestHowManyNodes(t *testing.T) {
	for _, n := range []int{1, 2, 3, 31, 32, 33, 63, 64} {
		wantTable(t, "Ends", make([]api.Node, n), make([]api.Node, n))
		nodes, second := round(n)
		wantTable(t, "a round", nodes, second)
	}
	for _, n := range []int{65, 66, 127, 128, 129, 1000} {
		wantNothing(t, "too many Ends", make([]api.Node, n), api.ErrLong)
		nodes, _ := round(n)
		wantNothing(t, "too many in a round", nodes, api.ErrLong)
	}
	wantNothing(t, "no nodes, but a list", []api.Node{}, api.ErrArg)
	wantNothing(t, "a list of a longer one", make([]api.Node, 3)[:0], api.ErrArg)
}

func TestTablesThatMayNotBe(t *testing.T) {
	for _, kind := range append(oddNumbers(), api.LastKind+1) {
		wantNothing(t, "a wrong kind", []api.Node{{}, of(kind, 0, far(0, 0))}, api.ErrKind)
		wantNothing(t, "a wrong kind alone", []api.Node{{Kind: kind}}, api.ErrKind)
	}
	for _, odd := range oddNumbers() {
		wantNothing(t, "an edge that leads out", []api.Node{{}, of(api.Send, 0, far(odd, 0))}, api.ErrOpen)
		wantNothing(t, "a payload that leads out", []api.Node{{}, ofEnd(api.Recv, 0, far(odd, 0), far(0, 0))}, api.ErrOpen)
		wantNothing(t, "an alias that leads out", []api.Node{{}, alias(odd, 0)}, api.ErrOpen)
		wantNothing(t, "a wrong shift", []api.Node{{}, of(api.Branch, 0, far(0, odd))}, api.ErrKind)
		wantNothing(t, "a wrong priority", []api.Node{{}, of(api.Select, odd, far(0, 0))}, api.ErrKind)
	}
	wantNothing(t, "an edge into the second half", []api.Node{{}, of(api.Send, 0, far(2, 0))}, api.ErrOpen)
	wantNothing(t, "a label into the second half", []api.Node{{}, of(api.Select, 0, far(0, 0), far(3, 0))}, api.ErrOpen)
	wantNothing(t, "a payload of the second half", []api.Node{{}, ofEnd(api.Send, 0, far(2, 0), far(0, 0))}, api.ErrOpen)
	wantNothing(t, "an End with a priority", []api.Node{{Prio: 1}}, api.ErrKind)
	wantNothing(t, "an End that goes on", []api.Node{of(api.End, 0, far(0, 0))}, api.ErrKind)
	wantNothing(t, "a Send without a Next", []api.Node{{Kind: api.Send}}, api.ErrKind)
	wantNothing(t, "too many labels", []api.Node{of(api.Branch, 0, make([]api.Edge, 9)...)}, api.ErrKind)
	wantNothing(t, "a word with an edge", []api.Node{{Kind: api.Send, Pay: far(0, 1), Next: []api.Edge{far(0, 0)}}}, api.ErrKind)
	wantNothing(t, "an alias of itself", []api.Node{alias(0, 1)}, api.ErrAlias)
	wantNothing(t, "aliases that go round", []api.Node{{}, alias(2, 1), alias(1, 0), of(api.Send, 0, far(0, 1))}, api.ErrAlias)
}

// Table asks for the shape alone: priorities need not rise.
func TestPrioritiesThatDoNotRise(t *testing.T) {
	wantTable(t, "level", []api.Node{of(api.Send, 5, far(0, 0))}, []api.Node{of(api.Recv, 5, far(1, 0))})
	wantTable(t, "falling", []api.Node{of(api.Branch, 9, far(1, 0)), ofEnd(api.Recv, 3, far(1, 0), far(0, 0))}, []api.Node{of(api.Select, 9, far(3, 0)), ofEnd(api.Send, 3, far(1, 0), far(2, 0))})
}

func TestEmptyListsAreLikeNil(t *testing.T) {
	wantTable(t, "an End with an empty list", []api.Node{{Next: []api.Edge{}}}, []api.Node{{}})
	wantTable(t, "an End with a list of a longer one", []api.Node{{Next: []api.Edge{far(9, 9)}[:0]}}, []api.Node{{}})
}

// busy is a table of some lists, each with room behind it, as is the table.
func busy() []api.Node {
	return tables.Roomy([]api.Node{{}, of(api.Select, 1, far(0, 1), far(2, 2), far(3, 3)), of(api.Send, 2, far(1, 9)), alias(1, 4), of(api.Branch, 3, far(2, 0))})
}

func TestRoomBehindWhatIsHandedInStays(t *testing.T) {
	l := busy()
	dual.Table(l)
	if !tables.IsRoomEmpty(l) {
		t.Errorf("something stands behind what was handed in: %v", l)
	}
}

func TestWhatIsAnsweredIsNew(t *testing.T) {
	l := busy()
	want := dual.Table(deep(l))
	first, second := dual.Table(l), dual.Table(l)
	for i := range first {
		first[i].Kind, first[i].Prio, first[i].Pay = api.Recv, 77, far(7, 7)
		for j := range first[i].Next {
			first[i].Next[j] = far(77, 77)
		}
		first[i].Next = append(first[i].Next, far(78, 78))
	}
	_ = append(first, api.Node{Prio: 79})
	if !same(l, busy()) {
		t.Error("what is answered shares with what was handed in")
	}
	if !same(second, want) || !same(dual.Table(l), want) {
		t.Error("two answers share")
	}
	for i := range l {
		for j := range l[i].Next {
			l[i].Next[j] = far(0, 5)
		}
		l[i] = api.Node{}
	}
	if !same(second, want) {
		t.Error("what was handed in shares with what is answered")
	}
}

// Each list of an answer is written to, also behind its end; no other one may change.
func TestNoTwoListsOfAnAnswerShare(t *testing.T) {
	for i := range 2 * len(busy()) {
		two := dual.Table(busy())
		want := deep(two)
		for j := range two[i].Next {
			two[i].Next[j] = far(77, 77)
		}
		_ = append(two[i].Next, far(78, 78), far(79, 79))
		two[i].Next = want[i].Next
		if !same(two, want) {
			t.Errorf("the list of %d is another one's, too", i)
		}
	}
}

// P6.1, Mate

func TestMate(t *testing.T) {
	wantMate(t, 1, 0, 1)
	wantMate(t, 1, 1, 0)
	wantMate(t, 3, 0, 3)
	wantMate(t, 3, 2, 5)
	wantMate(t, 3, 3, 0)
	wantMate(t, 3, 5, 2)
	for n := 1; n <= 130; n++ {
		for i := range n {
			wantMate(t, n, i, n+i)
			wantMate(t, n, n+i, i)
		}
	}
}

func TestMateOfWhatIsNone(t *testing.T) {
	for n := 1; n <= 130; n++ {
		for _, node := range append(oddNumbers(), 2*n, 2*n+1, 3*n, 4*n, -n, -n-1) {
			wantMate(t, n, node, -1)
		}
	}
	for _, n := range []int{0, -1, -2, -64, math.MinInt32, math.MinInt/2 + 1, math.MinInt / 2, math.MinInt + 1, math.MinInt} {
		for _, node := range append(oddNumbers(), 0, 1, 2, 5, 64, n, n+1, n-1, 2*n, 2*n-1) {
			wantMate(t, n, node, -1)
		}
	}
}

func TestMateOfManyNodes(t *testing.T) {
	for _, n := range []int{1 << 31, 1 << 32, 1<<40 + 1, 1<<62 - 1} {
		wantMate(t, n, 0, n)
		wantMate(t, n, n-1, 2*n-1)
		wantMate(t, n, n, 0)
		wantMate(t, n, 2*n-1, n-1)
		wantMate(t, n, 2*n, -1)
		wantMate(t, n, -1, -1)
	}
	// 2n - 1 is taken by its lowest 64 bits: here it still fits, from the next n on it is below 0.
	wantMate(t, 1<<62, math.MaxInt, 1<<62-1)
	wantMate(t, 1<<62, 5, 1<<62+5)
	wantMate(t, 1<<62+1, 0, -1)
	wantMate(t, math.MaxInt, 0, -1)
	wantMate(t, math.MaxInt, math.MaxInt, -1)
}

// P6.2

// paired is a dual table of six nodes, and their duals. The numbers tell which is the mate of each.
func paired() []api.Node {
	return dual.Table([]api.Node{
		{},
		of(api.Send, 7, far(0, 0)),
		of(api.Recv, 7, far(0, 0)),
		alias(1, 3),
		alias(3, 40),
		alias(0, 5),
	})
}

func TestNodesThatAreMates(t *testing.T) {
	two := paired()
	for _, offset := range []int{0, 1, -1, 1000, -77, math.MaxInt, math.MinInt} {
		for i := range 6 {
			wantMates(t, "mates", two, at(i, offset), at(6+i, offset), true)
		}
	}
}

func TestNodesThatAreNoMates(t *testing.T) {
	two := paired()
	for _, offset := range []int{0, 1, -77, math.MaxInt} {
		for i := range two {
			wantMates(t, "a type and itself", two, at(i, offset), at(i, offset), false)
		}
		wantMates(t, "a Send and a Recv", two, at(1, offset), at(2, offset), false)
		wantMates(t, "their duals", two, at(7, offset), at(8, offset), false)
		wantMates(t, "two Sends", two, at(1, offset), at(8, offset), false)
		wantMates(t, "a Send and an End", two, at(1, offset), at(6, offset), false)
		wantMates(t, "an End and a Recv", two, at(0, offset), at(7, offset), false)
	}
}

func TestOffsetsThatDiffer(t *testing.T) {
	two := paired()
	for i := range 6 {
		for _, offsets := range [][2]int{{0, 1}, {5, 4}, {-1, 1}, {0, 1000}, {0, 1 << 32}, {math.MinInt, math.MaxInt}, {0, math.MinInt}} {
			wantMates(t, "Offsets that differ", two, at(i, offsets[0]), at(6+i, offsets[1]), false)
			wantMates(t, "Offsets that differ", two, at(6+i, offsets[0]), at(i, offsets[1]), false)
		}
	}
}

func TestAliasesOnTheWay(t *testing.T) {
	two := paired()
	for _, side := range []int{0, 6} {
		mate := 6 - side
		wantMates(t, "an alias, and what it comes to", two, at(side+3, 0), at(mate+1, 3), true)
		wantMates(t, "an alias of an alias", two, at(side+4, 0), at(mate+1, 43), true)
		wantMates(t, "two aliases", two, at(side+4, 0), at(mate+3, 40), true)
		wantMates(t, "an alias of an End", two, at(side+5, 2), at(mate+0, 7), true)
		wantMates(t, "a shift that is not added", two, at(side+3, 3), at(mate+1, 3), false)
		wantMates(t, "a shift that is added to the other one", two, at(side+3, 3), at(mate+1, 0), false)
		wantMates(t, "one shift of two", two, at(side+4, 0), at(mate+1, 40), false)
		wantMates(t, "one alias of two", two, at(side+4, 7), at(mate+3, 7), false)
		wantMates(t, "an alias on the same side", two, at(side+3, 0), at(side+1, 3), false)
		wantMates(t, "an alias of another one", two, at(side+3, 0), at(mate+2, 3), false)
		wantMates(t, "an alias of an End, and what acts", two, at(side+5, 0), at(mate+1, 5), false)
	}
}

func TestOffsetsThatDoNotFit(t *testing.T) {
	two := paired()
	wantMates(t, "the greatest Offset", two, at(3, math.MaxInt), at(7, math.MinInt+2), true)
	wantMates(t, "the greatest Offset of aliases", two, at(4, math.MaxInt), at(9, math.MinInt+39), true)
	wantMates(t, "the greatest Offset of both", two, at(3, math.MaxInt), at(7, math.MaxInt), false)
}

func TestTypesThatComeToNone(t *testing.T) {
	two := paired()
	odd := append(oddNumbers(), len(two), len(two)+1, 2*len(two))
	for _, none := range odd {
		for i := range two {
			wantMates(t, "a node and none", two, at(i, 0), at(none, 0), false)
		}
		for _, other := range odd {
			wantMates(t, "none and none", two, at(none, 0), at(other, 0), false)
		}
	}
	wantMates(t, "none, and what would be its mate", two, at(-1, 0), at(5, 0), false)
	wantMates(t, "none, and what would be its mate", two, at(12, 0), at(6, 0), false)
	wantMates(t, "none, and what would be its mate", two, at(-6, 0), at(0, 0), false)
}

// Of a list that is no dual table types may come to none by their aliases.
func TestAliasesThatComeToNone(t *testing.T) {
	for _, none := range []api.Node{{Kind: api.Alias}, alias(-1, 0), alias(4, 0), of(api.Alias, 0, far(0, 0), far(0, 0))} {
		two := []api.Node{{}, none, {}, none}
		wantMates(t, "two that come to none", two, at(1, 0), at(3, 0), false)
		wantMates(t, "one that comes to none, and itself", two, at(1, 0), at(1, 0), false)
		wantMates(t, "an End and one that comes to none", two, at(0, 0), at(3, 0), false)
		wantMates(t, "two Ends beside them", two, at(0, 4), at(2, 4), true)
	}
	wantMates(t, "aliases that go round", []api.Node{alias(0, 0), alias(1, 0)}, at(0, 0), at(1, 0), false)
	wantMates(t, "aliases of each other", []api.Node{alias(1, 0), alias(0, 0)}, at(0, 0), at(1, 0), false)
}

// wantNoMates asks for no mates at all, of all types of a list and about it.
func wantNoMates(t *testing.T, what string, two []api.Node) {
	t.Helper()
	for i := -2; i <= len(two)+1; i++ {
		for j := -2; j <= len(two)+1; j++ {
			wantMates(t, what, two, at(i, 0), at(j, 0), false)
		}
	}
}

func TestListsWithAnOddNumberOfNodes(t *testing.T) {
	two := paired()
	wantNoMates(t, "one node less", two[:11])
	wantNoMates(t, "one node less, ahead", two[1:])
	wantNoMates(t, "one node more", append(deep(two), api.Node{}))
	for _, n := range []int{1, 3, 5, 9, 63, 65} {
		wantNoMates(t, "Ends", make([]api.Node, n))
	}
}

func TestEmptyListsHaveNoMates(t *testing.T) {
	wantNoMates(t, "none", nil)
	wantNoMates(t, "no nodes, but a list", []api.Node{})
	wantNoMates(t, "a list of a longer one", paired()[:0])
}

// A dual table may have twice MaxNodes nodes, each pair of which is looked at here.
func TestMatesOfMaxNodes(t *testing.T) {
	for _, n := range []int{1, 2, 33, 64} {
		nodes, _ := round(n)
		two := dual.Table(nodes)
		if len(two) != 2*n {
			t.Fatalf("a dual table of %d nodes has %d", n, len(two))
		}
		for i := range two {
			for j := range two {
				if got := dual.Mates(two, at(i, 9), at(j, 9)); got != (i-j == n || j-i == n) {
					t.Errorf("Mates of %d and %d, of %d nodes: %v", i, j, n, got)
				}
			}
		}
	}
}

// What the layer did not make is answered, too.
func TestMatesOfAnyListsEnd(t *testing.T) {
	for _, two := range [][]api.Node{
		{{Kind: 9}, {Kind: -1}},
		{of(api.Send, -5, far(-1, -1)), of(api.Alias, 3, far(0, math.MinInt))},
		{alias(1, math.MaxInt), alias(2, math.MaxInt), alias(3, math.MaxInt), {}},
		make([]api.Node, 5000),
	} {
		for _, i := range append(oddNumbers(), 0, 1, 2, 3, 4) {
			for _, j := range append(oddNumbers(), 0, 1, 2, 3, 4) {
				if dual.Mates(two, at(i, i), at(j, 3)) != dual.Mates(two, at(j, 3), at(i, i)) {
					t.Errorf("Mates of %d and %d is one thing, and the other way round another", i, j)
				}
			}
		}
	}
}

// P6.1 to P6.3 against a plain reading of the chapter

// plainDual is the dual kind.
func plainDual(kind int) int {
	switch kind {
	case api.Send:
		return api.Recv
	case api.Recv:
		return api.Send
	case api.Select:
		return api.Branch
	case api.Branch:
		return api.Select
	}
	return kind
}

// plainSecond is the second half of the dual table, word by word.
func plainSecond(nodes []api.Node) []api.Node {
	l := deep(nodes)
	for i := range l {
		l[i].Kind = plainDual(l[i].Kind)
		for j := range l[i].Next {
			l[i].Next[j].To += len(nodes)
		}
	}
	return l
}

// moved is a list of nodes each of whose Next goes so much further.
func moved(nodes []api.Node, by int) []api.Node {
	l := deep(nodes)
	for i := range l {
		for j := range l[i].Next {
			l[i].Next[j].To += by
		}
	}
	return l
}

// wantAsPlain holds Table of nodes against the plain reading, and, if all is well with them, against what follows.
func wantAsPlain(t *testing.T, nodes []api.Node) api.Errno {
	t.Helper()
	_, e := graph.Check(nodes)
	if e != api.OK {
		wantNothing(t, "a table that may not be", nodes, e)
		return e
	}
	wantTable(t, "a table that may be", nodes, plainSecond(nodes))
	wantWhatFollows(t, nodes)
	if t.Failed() {
		t.Fatalf("of the table %v", nodes)
	}
	return e
}

// wantWhatFollows asks for P6.3 of a table that may be.
func wantWhatFollows(t *testing.T, nodes []api.Node) {
	t.Helper()
	n := len(nodes)
	two := dual.Table(nodes)
	back := moved(two[n:], -n)
	again := dual.Table(back)
	if len(again) != 2*n || !same(again[:n], back) || !same(again[n:], moved(nodes, n)) {
		t.Errorf("the dual table of the second half is %v", again)
		return
	}
	for i := range two {
		wantBothGoOn(t, two, at(i, 5*i-9))
	}
}

// wantBothGoOn goes on from a type and its mate's along edges, each time the same one of both, and asks whether they stay mates.
func wantBothGoOn(t *testing.T, two []api.Node, a api.Type) {
	t.Helper()
	n := len(two) / 2
	b := at(dual.Mate(n, a.Node), a.Offset)
	for step := range 12 {
		x, y := graph.Resolve(two, a), graph.Resolve(two, b)
		if y.Node != dual.Mate(n, x.Node) || y.Offset != x.Offset || dual.Mate(n, y.Node) != x.Node {
			t.Errorf("%v comes to %v, and %v to %v", a, x, b, y)
			return
		}
		if !dual.Mates(two, a, b) || !dual.Mates(two, b, a) || !dual.Mates(two, x, b) || dual.Mates(two, a, x) {
			t.Errorf("%v and %v: they come to mates, but it is not told so", a, b)
		}
		if dual.Mates(two, a, at(b.Node, b.Offset+1)) {
			t.Errorf("%v and %v: they are mates, at another Offset, too", a, b)
		}
		one, other := two[x.Node], two[y.Node]
		if len(one.Next) != len(other.Next) || one.Pay != other.Pay || one.IsChan != other.IsChan || one.IsChan && one.Pay.To >= n {
			t.Errorf("the mates %d and %d: %v and %v", x.Node, y.Node, one, other)
			return
		}
		if len(one.Next) == 0 {
			return
		}
		e, f := one.Next[step%len(one.Next)], other.Next[step%len(one.Next)]
		a, b = at(e.To, x.Offset+e.Shift), at(f.To, y.Offset+f.Shift)
	}
}

// All tables of up to three nodes, of some that count.
func TestAllSmallTables(t *testing.T) {
	found := map[api.Errno]int{}
	for n := 1; n <= 3; n++ {
		pool := []api.Node{{}, {Prio: 1}, of(api.Send, 0, far(n, 1))}
		for goal := range n {
			pool = append(pool, alias(goal, goal), of(api.Send, 0, far(goal, 1)), of(api.Recv, 3, far(goal, 0)), ofEnd(api.Send, 1, far(goal, 2), far(0, 1)),
				ofEnd(api.Recv, 2, far(n-1, 0), far(goal, 4)), of(api.Branch, 1, far(goal, 2), far(0, 3)), of(api.Select, 0, far(n-1, 3), far(goal, 1)))
		}
		for l := range tables.All(n, pool) {
			found[wantAsPlain(t, l)]++
		}
	}
	for _, e := range []api.Errno{api.OK, api.ErrKind, api.ErrOpen, api.ErrAlias} {
		if found[e] < 10 {
			t.Errorf("just %d tables have the error %d", found[e], e)
		}
	}
}

// mixed is a table of n nodes of all kinds. Aliases go to the nodes ahead of them, mostly.
func mixed(r *tables.Row, n int) []api.Node {
	l := make([]api.Node, n)
	edge := func() api.Edge { return far(r.Below(n), r.Below(1001)) }
	for i := range l {
		switch kind := r.Below(6); kind {
		case api.Send, api.Recv:
			l[i] = of(kind, r.Below(1001), edge())
			if l[i].IsChan = r.Below(2) == 0; l[i].IsChan {
				l[i].Pay = edge()
			}
		case api.Select, api.Branch:
			l[i] = of(kind, r.Below(1001))
			for range 1 + r.Below(8) {
				l[i].Next = append(l[i].Next, edge())
			}
		case api.Alias:
			l[i] = alias(r.Below(max(1, i)), r.Below(1001))
		}
	}
	return l
}

func TestMixedTables(t *testing.T) {
	r := tables.Row(6)
	found := map[api.Errno]int{}
	for number := range 4000 {
		n := 1 + r.Below(12)
		if number%20 == 0 {
			n = 55 + r.Below(11)
		}
		l := mixed(&r, n)
		if r.Below(10) == 0 {
			l[r.Below(n)] = of(r.Below(7), 0, far(r.Below(n+1), 0))
		}
		found[wantAsPlain(t, l)]++
	}
	for _, e := range []api.Errno{api.OK, api.ErrLong, api.ErrKind, api.ErrOpen, api.ErrAlias} {
		if found[e] < 10 {
			t.Errorf("just %d tables have the error %d", found[e], e)
		}
	}
	if found[api.OK] < 1000 {
		t.Errorf("by their errors: %v", found)
	}
}
