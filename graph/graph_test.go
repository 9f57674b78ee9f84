package graph_test

import (
	"math"
	"testing"

	"colloquy/api"
	"colloquy/graph"
	"colloquy/tables"
)

// How tables are laid, and held against each other.
var alias, deep, same, oddNumbers = tables.Alias, tables.Deep, tables.Same, tables.OddNumbers

// to are edges to these nodes, which shift nothing.
func to(nodes ...int) []api.Edge {
	var l []api.Edge
	for _, n := range nodes {
		l = append(l, api.Edge{To: n})
	}
	return l
}

// far is the edge to a node with a shift, alone.
func far(node, shift int) []api.Edge { return []api.Edge{{To: node, Shift: shift}} }

// ofWord is a Send or a Recv of a word, which goes on to a node.
func ofWord(kind, node int) api.Node { return api.Node{Kind: kind, Next: to(node)} }

// ofEnd is a Send or a Recv of an endpoint of a node, with a shift, which goes on to a node.
func ofEnd(kind, pay, shift, node int) api.Node {
	return api.Node{Kind: kind, IsChan: true, Pay: api.Edge{To: pay, Shift: shift}, Next: to(node)}
}

// labels is a Select or a Branch that goes on to so many times the node 0.
func labels(kind, count int) api.Node { return api.Node{Kind: kind, Next: make([]api.Edge, count)} }

// eachKind is a node of each kind, as it may be, all of whose edges go to the node 0; behind them those whose payload is an endpoint.
func eachKind() []api.Node {
	return []api.Node{
		{}, ofWord(api.Send, 0), ofWord(api.Recv, 0), labels(api.Select, 2), labels(api.Branch, 2), alias(0, 0),
		ofEnd(api.Send, 0, 0, 0), ofEnd(api.Recv, 0, 0, 0),
	}
}

// acts tells whether a kind's nodes may have a priority.
func acts(kind int) bool {
	return kind == api.Send || kind == api.Recv || kind == api.Select || kind == api.Branch
}

// ends are so many Ends.
func ends(count int) []api.Node { return make([]api.Node, count) }

func wantCheck(t *testing.T, what string, nodes []api.Node, node int, e api.Errno) {
	t.Helper()
	was := deep(nodes)
	for range 2 {
		if n, got := graph.Check(nodes); n != node || got != e {
			t.Errorf("%s: Check: %d, %d, but %d, %d is asked for", what, n, got, node, e)
		}
	}
	if !same(nodes, was) {
		t.Errorf("%s: Check changed what was handed in", what)
	}
}

func wantResolve(t *testing.T, what string, nodes []api.Node, from, want api.Type) {
	t.Helper()
	was := deep(nodes)
	for range 2 {
		if got := graph.Resolve(nodes, from); got != want {
			t.Errorf("%s: Resolve of %v: %v, but %v is asked for", what, from, got, want)
		}
	}
	if !same(nodes, was) {
		t.Errorf("%s: Resolve changed what was handed in", what)
	}
}

// nowhere is what a type resolves to that comes to none.
var nowhere = api.Type{Node: -1}

// The chapter's examples

func TestExamples(t *testing.T) {
	wantCheck(t, "no nodes", nil, -1, api.ErrArg)
	wantCheck(t, "an End with Prio 1", []api.Node{{Prio: 1}}, 0, api.ErrKind)
	wantCheck(t, "a Send to 1, which is none", []api.Node{ofWord(api.Send, 1)}, 0, api.ErrOpen)
	round := []api.Node{alias(1, 2), alias(0, 0)}
	wantCheck(t, "aliases that go round", round, 0, api.ErrAlias)
	wantResolve(t, "aliases that go round", round, api.Type{}, nowhere)
	long := []api.Node{alias(1, 2), alias(2, 3), {}}
	wantCheck(t, "an alias of an alias", long, -1, api.OK)
	wantResolve(t, "an alias of an alias", long, api.Type{Node: 0, Offset: 4}, api.Type{Node: 2, Offset: 9})
}

// P4.1

func TestTablesThatMayBe(t *testing.T) {
	wantCheck(t, "each kind", eachKind(), -1, api.OK)
	wantCheck(t, "one End", ends(1), -1, api.OK)
	wantCheck(t, "a Send to itself", []api.Node{ofWord(api.Send, 0)}, -1, api.OK)
	wantCheck(t, "a Recv of an endpoint of itself", []api.Node{ofEnd(api.Recv, 0, 1, 0)}, -1, api.OK)
	wantCheck(t, "whole", []api.Node{
		{Kind: api.Select, Prio: 1, Next: []api.Edge{{To: 1, Shift: 2}, {To: 4}, {To: 5, Shift: 1000}}},
		{Kind: api.Send, Prio: 2, Next: far(2, 0)},
		{Kind: api.Recv, Prio: 3, IsChan: true, Pay: api.Edge{To: 3, Shift: 7}, Next: far(5, 9)},
		{Kind: api.Branch, Prio: 1000, Next: to(0, 1, 2, 3, 4, 5, 0, 1)},
		{},
		alias(0, 3),
	}, -1, api.OK)
}

func TestEmptyListsAreLikeNil(t *testing.T) {
	wantCheck(t, "no nodes, but a list", []api.Node{}, -1, api.ErrArg)
	wantCheck(t, "a list of a longer one", ends(3)[:0], -1, api.ErrArg)
	wantCheck(t, "an End with an empty list", []api.Node{{Next: []api.Edge{}}}, -1, api.OK)
	wantCheck(t, "an Alias with an empty list", []api.Node{{Kind: api.Alias, Next: []api.Edge{}}}, 0, api.ErrKind)
	wantResolve(t, "no nodes", nil, api.Type{}, nowhere)
	wantResolve(t, "no nodes, but a list", []api.Node{}, api.Type{}, nowhere)
}

func TestHowManyNodes(t *testing.T) {
	for _, n := range []int{1, 2, api.MaxNodes - 1, api.MaxNodes} {
		wantCheck(t, "as many as may be", ends(n), -1, api.OK)
	}
	for _, n := range []int{api.MaxNodes + 1, api.MaxNodes + 2, 2 * api.MaxNodes, 1000} {
		wantCheck(t, "more than may be", ends(n), -1, api.ErrLong)
		ill := ends(n)
		ill[0] = api.Node{Kind: 9, Prio: -1}
		ill[1] = ofWord(api.Send, -1)
		ill[2] = alias(2, 0)
		wantCheck(t, "more than may be, and ill ones", ill, -1, api.ErrLong)
	}
}

func TestPrio(t *testing.T) {
	numbers := append(oddNumbers(), 0, 1, 2, 999, 1000, 1001, 1002)
	for _, n := range eachKind() {
		for _, prio := range numbers {
			n.Prio = prio
			if prio == 0 || acts(n.Kind) && 0 < prio && prio <= 1000 {
				wantCheck(t, "a Prio that may be", append(ends(1), n), -1, api.OK)
			} else {
				wantCheck(t, "a Prio that may not be", append(ends(1), n), 1, api.ErrKind)
			}
		}
	}
}

func TestShiftOfNext(t *testing.T) {
	for _, n := range eachKind() {
		for i := range n.Next {
			for _, shift := range append(oddNumbers(), 0, 1, 999, 1000, 1001, 1002) {
				l := append(ends(1), deep([]api.Node{n})[0])
				l[1].Next[i].Shift = shift
				if 0 <= shift && shift <= 1000 {
					wantCheck(t, "a Shift that may be", l, -1, api.OK)
				} else {
					wantCheck(t, "a Shift that may not be", l, 1, api.ErrKind)
				}
			}
		}
	}
}

func TestShiftOfPay(t *testing.T) {
	for _, kind := range []int{api.Send, api.Recv} {
		for _, shift := range []int{0, 1, 999, 1000} {
			wantCheck(t, "a Shift that may be", append(ends(1), ofEnd(kind, 0, shift, 0)), -1, api.OK)
		}
		for _, shift := range append(oddNumbers(), 1001, 1002) {
			wantCheck(t, "a Shift that may not be", append(ends(1), ofEnd(kind, 0, shift, 0)), 1, api.ErrKind)
		}
	}
}

func TestHowManyNext(t *testing.T) {
	for _, n := range eachKind() {
		for _, count := range []int{0, 1, 2, 3, 7, 8, 9, 10, 100} {
			n.Next = make([]api.Edge, count)
			may := count == 1
			switch n.Kind {
			case api.End:
				may = count == 0
			case api.Select, api.Branch:
				may = 1 <= count && count <= 8
			}
			if may {
				wantCheck(t, "as many Next as may be", append(ends(1), n), -1, api.OK)
			} else {
				wantCheck(t, "not as many Next as may be", append(ends(1), n), 1, api.ErrKind)
			}
		}
	}
}

func TestPayWhereNoneMayBe(t *testing.T) {
	for _, n := range eachKind() {
		if n.Kind == api.Send || n.Kind == api.Recv {
			continue
		}
		for _, pay := range []api.Edge{{}, {To: 1}, {Shift: 1}, {To: 1, Shift: 1}, {To: -1}, {Shift: -1}, {To: 2}, {Shift: 1001}} {
			n.IsChan, n.Pay = true, pay
			wantCheck(t, "an endpoint where there is no payload", append(ends(1), n), 1, api.ErrKind)
			n.IsChan = false
			if pay != (api.Edge{}) {
				wantCheck(t, "an edge where there is no payload", append(ends(1), n), 1, api.ErrKind)
			}
		}
	}
}

func TestPayOfAWord(t *testing.T) {
	for _, kind := range []int{api.Send, api.Recv} {
		n := ofWord(kind, 0)
		for _, pay := range []api.Edge{{To: 1}, {Shift: 1}, {To: 1, Shift: 1}, {To: -1}, {Shift: -1}, {To: 2}, {Shift: 1001}, {To: math.MinInt}, {To: math.MaxInt}} {
			n.Pay = pay
			wantCheck(t, "a word with an edge", append(ends(1), n), 1, api.ErrKind)
		}
	}
}

func TestKindsThatAreNone(t *testing.T) {
	for _, kind := range append(oddNumbers(), api.LastKind+1, api.LastKind+2, 64, 256, 256+api.Send) {
		for _, n := range eachKind() {
			n.Kind = kind
			wantCheck(t, "a kind that is none", append(ends(1), n), 1, api.ErrKind)
			wantCheck(t, "a kind that is none, first", []api.Node{n}, 0, api.ErrKind)
		}
	}
}

// Each edge of a node of each kind, in turn, leads to each place of the table, and out of it.
func TestWhereEdgesLead(t *testing.T) {
	const n = 4
	for _, node := range eachKind() {
		for i := -1; i < len(node.Next); i++ {
			if i < 0 && !node.IsChan {
				continue
			}
			for _, goal := range append(oddNumbers(), 0, 1, n-1, n, n+1, 64) {
				l := ends(n)
				l[2] = deep([]api.Node{node})[0]
				if i < 0 {
					l[2].Pay.To = goal
				} else {
					l[2].Next[i].To = goal
				}
				if 0 <= goal && goal < n {
					wantCheck(t, "an edge that leads to a node", l, -1, api.OK)
				} else {
					wantCheck(t, "an edge that leads out", l, 2, api.ErrOpen)
				}
			}
		}
	}
}

func TestEachLabelLeads(t *testing.T) {
	for _, kind := range []int{api.Select, api.Branch} {
		for i := range api.MaxLabels {
			n := labels(kind, api.MaxLabels)
			n.Next[i].To = 1
			wantCheck(t, "a label that leads out", []api.Node{n}, 0, api.ErrOpen)
			n.Next[i] = api.Edge{Shift: 1001}
			wantCheck(t, "a label with a shift that may not be", []api.Node{n}, 0, api.ErrKind)
			n.Next[i].To = -1
			wantCheck(t, "a label that leads out with such a shift", []api.Node{n}, 0, api.ErrKind)
		}
	}
}

func TestTheLastNodeCounts(t *testing.T) {
	for _, n := range []int{1, 2, 63, 64} {
		l := ends(n)
		l[n-1] = ofWord(api.Send, n-1)
		wantCheck(t, "the last one, to itself", l, -1, api.OK)
		l[n-1] = ofWord(api.Send, n)
		wantCheck(t, "the last one, behind itself", l, n-1, api.ErrOpen)
		l[n-1] = api.Node{Prio: 1}
		wantCheck(t, "the last one has not its shape", l, n-1, api.ErrKind)
		l[n-1] = alias(n-1, 0)
		wantCheck(t, "the last one, an alias of itself", l, n-1, api.ErrAlias)
	}
}

func TestOfSeveralTheFirstIsTold(t *testing.T) {
	noShape, open, round := api.Node{Prio: 1}, ofWord(api.Recv, 9), alias(0, 0)
	wantCheck(t, "open ahead of no shape", []api.Node{open, noShape}, 0, api.ErrOpen)
	wantCheck(t, "no shape ahead of open", []api.Node{noShape, open}, 0, api.ErrKind)
	wantCheck(t, "the second one and the third one", []api.Node{{}, open, noShape, open}, 1, api.ErrOpen)
	wantCheck(t, "a round ahead of no shape", []api.Node{round, noShape}, 1, api.ErrKind)
	wantCheck(t, "a round ahead of open", []api.Node{round, {}, open}, 2, api.ErrOpen)
	wantCheck(t, "a round ahead of an alias that leads out", []api.Node{round, alias(5, 0)}, 1, api.ErrOpen)
	wantCheck(t, "an alias that leads out", []api.Node{alias(1, 0), alias(5, 0)}, 1, api.ErrOpen)
	wantCheck(t, "two rounds", []api.Node{{}, alias(2, 0), alias(1, 0), alias(3, 0)}, 1, api.ErrAlias)
}

// Of one node the shape is asked for ahead of all its edges, the payload's too.
func TestShapeAheadOfEdges(t *testing.T) {
	for _, n := range []api.Node{
		{Kind: 6, Next: to(9)},
		{Kind: api.End, Next: to(9)},
		{Kind: api.Send, Prio: 1001, Next: to(9)},
		{Kind: api.Send, Pay: api.Edge{To: 9}, Next: to(9)},
		{Kind: api.Send, IsChan: true, Pay: api.Edge{To: 9, Shift: -1}, Next: to(0)},
		{Kind: api.Recv, IsChan: true, Pay: api.Edge{To: 9}, Next: far(0, 1001)},
		{Kind: api.Recv, IsChan: true, Pay: api.Edge{To: 9}},
		{Kind: api.Select, Next: []api.Edge{{To: 9}, {Shift: 1001}}},
		{Kind: api.Branch, Next: []api.Edge{{To: -1}, {}, {Shift: -1}}},
		{Kind: api.Branch, Next: to(9, 9, 9, 9, 9, 9, 9, 9, 9)},
		{Kind: api.Alias, Next: to(9, 9)},
		{Kind: api.Alias, Next: far(-1, -1)},
	} {
		wantCheck(t, "no shape, and an edge that leads out", []api.Node{n, {}}, 0, api.ErrKind)
	}
}

func TestAliasesThatComeToNone(t *testing.T) {
	wantCheck(t, "of itself", []api.Node{alias(0, 0)}, 0, api.ErrAlias)
	wantCheck(t, "of itself, with a shift", []api.Node{{}, alias(1, 5)}, 1, api.ErrAlias)
	wantCheck(t, "into one of itself", []api.Node{alias(1, 0), alias(1, 0)}, 0, api.ErrAlias)
	wantCheck(t, "into one of itself, back", []api.Node{alias(0, 0), alias(0, 0)}, 0, api.ErrAlias)
	wantCheck(t, "into a round of two", []api.Node{{}, alias(0, 0), alias(3, 0), alias(4, 1), alias(3, 1)}, 2, api.ErrAlias)
	wantCheck(t, "into a round of two that stands ahead", []api.Node{{}, alias(2, 0), alias(1, 0), alias(2, 0)}, 1, api.ErrAlias)
	wantCheck(t, "a long way into a round", []api.Node{alias(1, 0), alias(2, 0), alias(3, 0), alias(4, 0), alias(3, 0), {}}, 0, api.ErrAlias)
	wantCheck(t, "a good one ahead of a round", []api.Node{alias(3, 0), alias(0, 0), alias(2, 0), {}}, 2, api.ErrAlias)
}

func TestAliasesThatComeToATypeOfEachKind(t *testing.T) {
	for _, n := range eachKind() {
		if n.Kind == api.Alias {
			continue
		}
		wantCheck(t, "an alias of it", []api.Node{alias(2, 1), alias(0, 1), n}, -1, api.OK)
		wantResolve(t, "an alias of it", []api.Node{alias(2, 1), alias(0, 1), n}, api.Type{Node: 1}, api.Type{Node: 2, Offset: 2})
	}
}

// A round of types is none of aliases.
func TestRoundsThatActMayBe(t *testing.T) {
	wantCheck(t, "an alias of what goes on with it", []api.Node{alias(1, 0), ofWord(api.Send, 0)}, -1, api.OK)
	wantCheck(t, "an alias of what hands it over", []api.Node{alias(1, 0), ofEnd(api.Recv, 0, 0, 0)}, -1, api.OK)
}

// line is a table of n nodes, each an alias of the next one with a shift, and the last one an alias of the goal; with the goal n - 1 that one is an End.
func line(n, goal, shift int) []api.Node {
	l := ends(n)
	for i := range n - 1 {
		l[i] = alias(i+1, shift)
	}
	if goal < n-1 {
		l[n-1] = alias(goal, shift)
	}
	return l
}

// back is a table of n nodes, each an alias of the one ahead of it, and the first one an End.
func back(n, shift int) []api.Node {
	l := ends(n)
	for i := 1; i < n; i++ {
		l[i] = alias(i-1, shift)
	}
	return l
}

func TestLongWays(t *testing.T) {
	for _, n := range []int{2, 3, 63, 64} {
		wantCheck(t, "a way through all nodes", line(n, n-1, 1000), -1, api.OK)
		wantResolve(t, "a way through all nodes", line(n, n-1, 1000), api.Type{Offset: 5}, api.Type{Node: n - 1, Offset: 5 + 1000*(n-1)})
		wantCheck(t, "a way back through all nodes", back(n, 3), -1, api.OK)
		wantResolve(t, "a way back through all nodes", back(n, 3), api.Type{Node: n - 1, Offset: -4}, api.Type{Offset: 3*(n-1) - 4})
		for _, goal := range []int{0, (n - 1) / 2, n - 2} {
			l := line(n, goal, 1)
			wantCheck(t, "a way that goes round", l, 0, api.ErrAlias)
			for i := range l {
				wantResolve(t, "a way that goes round", l, api.Type{Node: i, Offset: 7}, nowhere)
			}
		}
	}
}

// P4.2

// offsets are Offsets of all sorts.
func offsets() []int { return append(oddNumbers(), 0, 1, 5, 999, 1000, 1001) }

func TestNoAliasComesToItself(t *testing.T) {
	for i, n := range eachKind() {
		if n.Kind == api.Alias {
			continue
		}
		for _, offset := range offsets() {
			at := api.Type{Node: i, Offset: offset}
			wantResolve(t, "no alias", eachKind(), at, at)
		}
	}
}

func TestAnAliasAddsItsShift(t *testing.T) {
	l := []api.Node{{}, alias(0, 0), alias(0, 1), alias(2, 1000), alias(3, 20)}
	shifts := []int{0, 0, 1, 1001, 1021}
	wantCheck(t, "aliases", l, -1, api.OK)
	for i, shift := range shifts {
		for _, offset := range offsets() {
			wantResolve(t, "aliases", l, api.Type{Node: i, Offset: offset}, api.Type{Offset: offset + shift})
		}
	}
}

func TestOffsetsThatDoNotFit(t *testing.T) {
	l := []api.Node{alias(1, 1), alias(2, 1), {}}
	wantResolve(t, "the greatest Offset", l, api.Type{Offset: math.MaxInt}, api.Type{Node: 2, Offset: math.MinInt + 1})
	wantResolve(t, "the greatest Offset but one", l, api.Type{Node: 0, Offset: math.MaxInt - 1}, api.Type{Node: 2, Offset: math.MinInt})
	l = []api.Node{alias(1, math.MinInt), alias(2, -1), {}}
	wantResolve(t, "the least Shift", l, api.Type{}, api.Type{Node: 2, Offset: math.MaxInt})
	wantResolve(t, "the least Shift twice", l, api.Type{Offset: math.MinInt}, api.Type{Node: 2, Offset: -1})
}

func TestTypesOfNoNode(t *testing.T) {
	for n := range 4 {
		l := ends(n)
		for _, node := range append(oddNumbers(), n, n+1, 64) {
			for _, offset := range []int{0, 1, -1, 7, math.MinInt, math.MaxInt} {
				wantResolve(t, "a node that is none of the table", l, api.Type{Node: node, Offset: offset}, nowhere)
			}
		}
	}
}

func TestWaysThatLeaveTheTable(t *testing.T) {
	for _, goal := range append(oddNumbers(), 3, 4, 64) {
		l := []api.Node{alias(1, 2), alias(2, 3), alias(goal, 4)}
		for i := range l {
			wantResolve(t, "a way that leads out", l, api.Type{Node: i, Offset: 9}, nowhere)
		}
	}
}

func TestAliasesWithoutJustOneNext(t *testing.T) {
	for _, next := range [][]api.Edge{nil, {}, to(3, 3), to(3, 0), to(0, 3), to(3, 3, 3), make([]api.Edge, 9)} {
		l := []api.Node{alias(1, 2), {Kind: api.Alias, Next: next}, {Kind: api.Alias, Next: next}, {}}
		for i := range 3 {
			wantResolve(t, "an Alias without just one Next", l, api.Type{Node: i, Offset: 9}, nowhere)
		}
		wantResolve(t, "what is none", l, api.Type{Node: 3, Offset: 9}, api.Type{Node: 3, Offset: 9})
		wantCheck(t, "an Alias without just one Next", l, 1, api.ErrKind)
	}
}

// Whatever else is wrong with a node, Resolve does not look at it.
func TestOtherThingsAreNotLookedAt(t *testing.T) {
	odd := []api.Node{
		{Kind: 6}, {Kind: -1, Next: to(9, 9)}, {Kind: math.MaxInt, Next: to(0)}, {Kind: math.MinInt, IsChan: true},
		{Prio: 7, Next: to(-1)}, {Kind: api.Send}, {Kind: api.Recv, Prio: -1, Next: to(9, 9)}, {Kind: api.Select}, labels(api.Branch, 100),
	}
	for i, n := range odd {
		l := []api.Node{alias(2, 4), {Kind: api.Alias, Prio: 1001, IsChan: true, Pay: api.Edge{To: -1, Shift: -9}, Next: far(0, 3)}, n}
		for _, shift := range []int{3, -1, 1001, math.MinInt, math.MaxInt} {
			l[1].Next[0].Shift = shift
			wantResolve(t, "an odd one itself", l, api.Type{Node: 2, Offset: i}, api.Type{Node: 2, Offset: i})
			wantResolve(t, "an alias of it", l, api.Type{Node: 0, Offset: i}, api.Type{Node: 2, Offset: i + 4})
			wantResolve(t, "an odd alias of that", l, api.Type{Node: 1, Offset: i}, api.Type{Node: 2, Offset: i + 4 + shift})
		}
	}
}

func TestRoundsDoNotCountWhereNoWayLeadsIn(t *testing.T) {
	l := []api.Node{alias(1, 1), alias(0, 1), alias(3, 6), {}, alias(9, 0), {Kind: 17}}
	wantResolve(t, "beside a round", l, api.Type{Node: 2, Offset: 1}, api.Type{Node: 3, Offset: 7})
	wantResolve(t, "a round", l, api.Type{Node: 1, Offset: 1}, nowhere)
}

func TestTablesOfMoreThanMaxNodes(t *testing.T) {
	for _, n := range []int{65, 128, 129, 5000} {
		wantResolve(t, "a long way", line(n, n-1, 2), api.Type{Offset: 1}, api.Type{Node: n - 1, Offset: 1 + 2*(n-1)})
		wantResolve(t, "a long way back", back(n, 2), api.Type{Node: n - 1, Offset: 1}, api.Type{Offset: 1 + 2*(n-1)})
		wantResolve(t, "a long round", line(n, 0, 2), api.Type{Node: n / 2, Offset: 1}, nowhere)
		wantResolve(t, "a long way into a round", line(n, n-2, 2), api.Type{Offset: 1}, nowhere)
	}
}

// P4.1, P4.2 and P4.3 against a plain reading of the chapter

// plainShape tells, by the chapter's table, whether a node has its shape.
func plainShape(n api.Node) bool {
	noPay := !n.IsChan && n.Pay == api.Edge{}
	for _, e := range n.Next {
		if e.Shift < 0 || e.Shift > 1000 {
			return false
		}
	}
	switch n.Kind {
	case api.End:
		return len(n.Next) == 0 && noPay && n.Prio == 0
	case api.Send, api.Recv:
		isEnd := n.IsChan && 0 <= n.Pay.Shift && n.Pay.Shift <= 1000
		return len(n.Next) == 1 && (isEnd || noPay) && 0 <= n.Prio && n.Prio <= 1000
	case api.Select, api.Branch:
		return 1 <= len(n.Next) && len(n.Next) <= 8 && noPay && 0 <= n.Prio && n.Prio <= 1000
	case api.Alias:
		return len(n.Next) == 1 && noPay && n.Prio == 0
	}
	return false
}

// plainOpen tells whether a node has an edge that leads out of n nodes.
func plainOpen(node api.Node, n int) bool {
	all := append([]api.Edge(nil), node.Next...)
	if node.IsChan {
		all = append(all, node.Pay)
	}
	for _, e := range all {
		if e.To < 0 || e.To >= n {
			return true
		}
	}
	return false
}

// plainWay goes a type's way: what it comes to, and in how many steps; not, if it meets a node twice, or leaves the table.
func plainWay(nodes []api.Node, at api.Type) (to api.Type, steps int, comes bool) {
	met := map[int]bool{}
	for {
		if at.Node < 0 || at.Node >= len(nodes) || met[at.Node] {
			return nowhere, 0, false
		}
		n := nodes[at.Node]
		if n.Kind != api.Alias {
			return at, steps, true
		}
		if len(n.Next) != 1 {
			return nowhere, 0, false
		}
		met[at.Node] = true
		at.Offset += n.Next[0].Shift
		at.Node = n.Next[0].To
		steps++
	}
}

// plainCheck is Check, word by word.
func plainCheck(nodes []api.Node) (int, api.Errno) {
	switch {
	case len(nodes) == 0:
		return -1, api.ErrArg
	case len(nodes) > 64:
		return -1, api.ErrLong
	}
	for i, n := range nodes {
		if !plainShape(n) {
			return i, api.ErrKind
		}
		if plainOpen(n, len(nodes)) {
			return i, api.ErrOpen
		}
	}
	for i, n := range nodes {
		if _, _, comes := plainWay(nodes, api.Type{Node: i}); n.Kind == api.Alias && !comes {
			return i, api.ErrAlias
		}
	}
	return -1, api.OK
}

// wantAsPlain holds Check and Resolve of a table against the plain reading, and, if all is well with it, against what follows.
func wantAsPlain(t *testing.T, nodes []api.Node) api.Errno {
	t.Helper()
	was := deep(nodes)
	node, e := plainCheck(nodes)
	if n, got := graph.Check(nodes); n != node || got != e {
		t.Errorf("Check: %d, %d, but %d, %d is asked for", n, got, node, e)
	}
	for i := -1; i <= len(nodes); i++ {
		from := api.Type{Node: i, Offset: 3*i - 4}
		want, _, _ := plainWay(nodes, from)
		if got := graph.Resolve(nodes, from); got != want {
			t.Errorf("Resolve of %v: %v, but %v is asked for", from, got, want)
		}
	}
	if e == api.OK {
		wantWhatFollows(t, nodes)
	}
	if !same(nodes, was) {
		t.Error("what was handed in is changed")
	}
	if t.Failed() {
		t.Fatalf("of the table %v", was)
	}
	return e
}

// wantWhatFollows asks for P4.3 of each type of a table.
func wantWhatFollows(t *testing.T, nodes []api.Node) {
	t.Helper()
	for i := range nodes {
		zero := graph.Resolve(nodes, api.Type{Node: i})
		if zero.Node < 0 || zero.Node >= len(nodes) || nodes[zero.Node].Kind == api.Alias {
			t.Fatalf("the type %d comes to %v", i, zero)
		}
		if _, steps, _ := plainWay(nodes, api.Type{Node: i}); steps >= len(nodes) {
			t.Errorf("the type %d makes %d steps", i, steps)
		}
		if again := graph.Resolve(nodes, zero); again != zero {
			t.Errorf("the type %d comes to %v, and that to %v", i, zero, again)
		}
		for _, offset := range []int{1, -1, 1000, -77, math.MaxInt, math.MinInt} {
			got := graph.Resolve(nodes, api.Type{Node: i, Offset: offset})
			if got.Node != zero.Node || got.Offset != zero.Offset+offset {
				t.Errorf("the type %d comes to %v, and with the Offset %d to %v", i, zero, offset, got)
			}
			if again := graph.Resolve(nodes, got); again != got {
				t.Errorf("%v comes to %v", got, again)
			}
		}
	}
}

// All tables of up to five nodes, each of them an End, or an alias of one of them.
func TestAllSmallTablesOfAliases(t *testing.T) {
	found := map[api.Errno]int{}
	for n := 1; n <= 5; n++ {
		all := 1
		for range n {
			all *= n + 1
		}
		for number := range all {
			l := ends(n)
			for i := range l {
				if goal := number % (n + 1); goal < n {
					l[i] = alias(goal, i+goal)
				}
				number /= n + 1
			}
			found[wantAsPlain(t, l)]++
		}
	}
	// Those of n nodes without a round are the forests whose roots are Ends: (n+1)^(n-1) of them.
	if found[api.OK] != 1+3+16+125+1296 || len(found) != 2 {
		t.Errorf("by their errors: %v", found)
	}
}

// All tables of up to three nodes, of some that count.
func TestAllSmallTables(t *testing.T) {
	found := map[api.Errno]int{}
	for n := 1; n <= 3; n++ {
		pool := []api.Node{{}, {Prio: 1}, {Kind: 6}, {Kind: api.Alias}, {Kind: api.Select}, {Next: to(0)}}
		for _, goal := range []int{-1, 0, n - 1, n} {
			pool = append(pool, ofWord(api.Send, goal), alias(goal, 1), ofEnd(api.Recv, goal, 2, 0), labels(api.Branch, 2))
			pool[len(pool)-1].Next[1] = api.Edge{To: goal, Shift: 3}
		}
		for l := range tables.All(n, pool) {
			found[wantAsPlain(t, l)]++
		}
	}
	for _, e := range []api.Errno{api.OK, api.ErrKind, api.ErrOpen, api.ErrAlias} {
		if found[e] == 0 {
			t.Errorf("no table has the error %d", e)
		}
	}
}

// mixed is a table of n nodes of all kinds, each as it may be, but for aliases that go round.
func mixed(r *tables.Row, n int) []api.Node {
	l := ends(n)
	edge := func() api.Edge { return api.Edge{To: r.Below(n), Shift: r.Below(1001)} }
	for i := range l {
		kind := r.Below(6)
		l[i].Kind = kind
		switch kind {
		case api.Send, api.Recv:
			l[i].Next = []api.Edge{edge()}
			if l[i].IsChan = r.Below(2) == 0; l[i].IsChan {
				l[i].Pay = edge()
			}
		case api.Select, api.Branch:
			for range 1 + r.Below(8) {
				l[i].Next = append(l[i].Next, edge())
			}
		case api.Alias:
			l[i].Next = []api.Edge{edge()}
		}
		if acts(kind) {
			l[i].Prio = r.Below(1001)
		}
	}
	return l
}

// spoil makes something of a node another one, which it may not be, mostly.
func spoil(r *tables.Row, n *api.Node, nodes int) {
	odd := []int{-1, 0, 1, 1000, 1001, nodes - 1, nodes, math.MinInt, math.MaxInt}[r.Below(9)]
	switch r.Below(8) {
	case 0:
		n.Kind = r.Below(8) - 1
	case 1:
		n.Prio = odd
	case 2:
		n.IsChan = !n.IsChan
	case 3:
		n.Pay.To = odd
	case 4:
		n.Pay.Shift = odd
	case 5:
		n.Next = append(n.Next, api.Edge{})
	case 6:
		if len(n.Next) > 0 {
			n.Next[r.Below(len(n.Next))].To = odd
		}
	case 7:
		if len(n.Next) > 0 {
			n.Next[r.Below(len(n.Next))].Shift = odd
		}
	}
}

func TestMixedTables(t *testing.T) {
	r := tables.Row(4)
	found := map[api.Errno]int{}
	for round := range 20000 {
		l := mixed(&r, 1+r.Below(12))
		if round%20 == 0 {
			l = mixed(&r, 60+r.Below(8))
		}
		for range r.Below(4) {
			spoil(&r, &l[r.Below(len(l))], len(l))
		}
		found[wantAsPlain(t, l)]++
	}
	for _, e := range []api.Errno{api.OK, api.ErrLong, api.ErrKind, api.ErrOpen, api.ErrAlias} {
		if found[e] < 100 {
			t.Errorf("just %d tables have the error %d", found[e], e)
		}
	}
}
