package order_test

import (
	"math"
	"testing"

	"colloquy/api"
	"colloquy/graph"
	"colloquy/order"
	"colloquy/tables"
)

// How tables are laid, and held against each other.
var (
	far, of, ofEnd, alias  = tables.Far, tables.Of, tables.OfEnd, tables.Alias
	deep, same, oddNumbers = tables.Deep, tables.Same, tables.OddNumbers
)

// acting are the kinds of nodes that act.
func acting() []int { return []int{api.Send, api.Recv, api.Select, api.Branch} }

// wantKept asks whether a table is as it was; lists that are nil are like those without elements.
func wantKept(t *testing.T, what string, nodes, was []api.Node) {
	t.Helper()
	if !same(nodes, was) {
		t.Errorf("%s: what was handed in is changed", what)
	}
}

func wantJump(t *testing.T, what string, nodes []api.Node, from int, e api.Edge, rise int) {
	t.Helper()
	wantJumps(t, what, nodes, from, e, rise, true)
}

func wantNoJump(t *testing.T, what string, nodes []api.Node, from int, e api.Edge) {
	t.Helper()
	wantJumps(t, what, nodes, from, e, 0, false)
}

func wantJumps(t *testing.T, what string, nodes []api.Node, from int, e api.Edge, rise int, goesOn bool) {
	t.Helper()
	was := deep(nodes)
	for range 2 {
		if got, ok := order.Jump(nodes, from, e); got != rise || ok != goesOn {
			t.Errorf("%s: Jump from %d along %v: %d, %v, but %d, %v is asked for", what, from, e, got, ok, rise, goesOn)
		}
	}
	wantKept(t, what, nodes, was)
}

func wantCheck(t *testing.T, what string, nodes []api.Node, node int, e api.Errno) {
	t.Helper()
	was := deep(nodes)
	for range 2 {
		if n, got := order.Check(nodes); n != node || got != e {
			t.Errorf("%s: Check: %d, %d, but %d, %d is asked for", what, n, got, node, e)
		}
	}
	wantKept(t, what, nodes, was)
}

func wantBack(t *testing.T, what string, nodes []api.Node, node, rise int) {
	t.Helper()
	wantBacks(t, what, nodes, node, rise, true)
}

func wantNoBack(t *testing.T, what string, nodes []api.Node, node int) {
	t.Helper()
	wantBacks(t, what, nodes, node, 0, false)
}

func wantBacks(t *testing.T, what string, nodes []api.Node, node, rise int, has bool) {
	t.Helper()
	was := deep(nodes)
	for range 2 {
		if got, ok := order.Back(nodes, node); got != rise || ok != has {
			t.Errorf("%s: Back of %d: %d, %v, but %d, %v is asked for", what, node, got, ok, rise, has)
		}
	}
	wantKept(t, what, nodes, was)
}

// The chapter's examples

func TestExamples(t *testing.T) {
	l := []api.Node{of(api.Send, 0, far(1, 0)), of(api.Recv, 1, far(0, 2))}
	wantCheck(t, "a round", l, -1, api.OK)
	wantBack(t, "a round", l, 0, 2)
	l[1].Next[0].Shift = 1
	wantCheck(t, "a round with the shift 1", l, 1, api.ErrOrder)
	wantNoBack(t, "a round with the shift 1", l, 0)
	l = []api.Node{ofEnd(api.Send, 3, far(1, 0), far(1, 0)), {}}
	wantCheck(t, "a Send of an End", l, -1, api.OK)
	wantNoBack(t, "a Send of an End", l, 0)
	l = []api.Node{ofEnd(api.Send, 0, far(0, 0), far(1, 0)), {}}
	wantCheck(t, "a Send of itself", l, 0, api.ErrOrder)
	wantNoBack(t, "a Send of itself", l, 0)
}

// ways are nodes that act, of each kind, behind an End; and aliases of them.
func ways() []api.Node {
	return []api.Node{
		{},
		of(api.Send, 7, far(0, 0)),
		of(api.Recv, 20, far(0, 0)),
		of(api.Select, 1000, far(0, 0), far(0, 0)),
		of(api.Branch, 0, far(1, 0), far(0, 0)),
		alias(2, 3),
		alias(5, 40),
		alias(6, 500),
		alias(0, 9),
		alias(8, 1),
	}
}

// P5.1

func TestJumpToNodesThatAct(t *testing.T) {
	l := ways()
	wantCheck(t, "ways", l, -1, api.OK)
	prios := []int{0, 7, 20, 1000, 0}
	for from := range l {
		for to := 1; to <= 4; to++ {
			for _, shift := range []int{0, 1, 5, 999, 1000} {
				wantJump(t, "an edge", l, from, far(to, shift), prios[to]+shift-l[from].Prio)
			}
		}
	}
}

func TestJumpThroughAliases(t *testing.T) {
	l := ways()
	for _, shift := range []int{0, 1, 6, 1000} {
		wantJump(t, "one alias", l, 1, far(5, shift), 20+3+shift-7)
		wantJump(t, "two aliases", l, 1, far(6, shift), 20+3+40+shift-7)
		wantJump(t, "three aliases", l, 1, far(7, shift), 20+3+40+500+shift-7)
		wantJump(t, "one alias, of itself", l, 2, far(5, shift), 3+shift)
		wantJump(t, "three aliases, from above", l, 3, far(7, shift), 20+3+40+500+shift-1000)
	}
}

func TestJumpToAnEnd(t *testing.T) {
	l := ways()
	for from := range l {
		for _, to := range []int{0, 8, 9} {
			for _, shift := range []int{0, 1, 1000} {
				wantNoJump(t, "an edge to an End", l, from, far(to, shift))
			}
		}
	}
	wantNoJump(t, "an End alone", []api.Node{{}}, 0, far(0, 0))
}

func TestJumpThatFalls(t *testing.T) {
	l := ways()
	wantJump(t, "down", l, 3, far(4, 0), -1000)
	wantJump(t, "down but one", l, 3, far(4, 1), -999)
	wantJump(t, "level", l, 1, far(1, 0), 0)
	wantJump(t, "level by a shift", l, 2, far(1, 13), 0)
	wantJump(t, "up", l, 4, far(3, 1000), 2000)
}

// Jump asks for graph's shape, not for the order.
func TestJumpWhereTheOrderIsWrong(t *testing.T) {
	l := []api.Node{of(api.Send, 3, far(1, 0)), of(api.Recv, 3, far(0, 0)), ofEnd(api.Recv, 9, far(0, 1), far(1, 2))}
	wantCheck(t, "level", l, 0, api.ErrOrder)
	wantJump(t, "level", l, 0, far(1, 0), 0)
	wantJump(t, "a payload", l, 2, far(0, 1), -5)
	wantJump(t, "its Next", l, 2, far(1, 2), -4)
}

func TestJumpOfNoNode(t *testing.T) {
	l := ways()
	for _, odd := range append(oddNumbers(), len(l), len(l)+1, 64) {
		wantNoJump(t, "from no node", l, odd, far(1, 0))
		wantNoJump(t, "from no node, to an alias", l, odd, far(7, 3))
		wantNoJump(t, "to no node", l, 1, far(odd, 0))
		wantNoJump(t, "to no node, with a shift", l, 1, far(odd, 1000))
		wantNoJump(t, "from none to none", l, odd, far(odd, 0))
	}
}

// The edge may be any one, also one that no node has, or may have.
func TestJumpAlongEdgesOfNoNode(t *testing.T) {
	l := ways()
	for _, shift := range append(oddNumbers(), 1001, -1000) {
		wantJump(t, "an odd shift", l, 1, far(2, shift), 13+shift)
		wantJump(t, "an odd shift, through aliases", l, 1, far(6, shift), 56+shift)
		wantJump(t, "an odd shift, down", l, 3, far(4, shift), shift-1000)
		wantNoJump(t, "an odd shift, to an End", l, 1, far(0, shift))
		wantNoJump(t, "an odd shift, to an alias of an End", l, 1, far(9, shift))
	}
}

// A node that does not act has the priority 0, whatever an Alias comes to.
func TestJumpFromNodesThatDoNotAct(t *testing.T) {
	l := ways()
	for _, from := range []int{0, 5, 6, 7, 8, 9} {
		wantJump(t, "to a Send", l, from, far(1, 2), 9)
		wantJump(t, "to an alias", l, from, far(5, 2), 25)
		wantNoJump(t, "to an End", l, from, far(0, 2))
	}
	wantJump(t, "an alias's own edge", l, 5, far(2, 3), 23)
}

// wrong are tables of which graph.Check answers an error; behind them its node.
func wrong() (tables [][]api.Node, nodes []int) {
	edge := far(0, 2)
	add := func(node int, l ...api.Node) {
		tables, nodes = append(tables, l), append(nodes, node)
	}
	add(-1)
	add(-1, many(65, 3)...)
	add(-1, many(200, 3)...)
	add(1, of(api.Send, 0, edge), of(6, 0, edge))
	add(1, of(api.Send, 0, edge), of(-1, 0, edge))
	add(1, of(api.Send, 0, edge), of(api.End, 0, edge))
	add(1, of(api.Send, 0, edge), of(api.Send, 1001, edge))
	add(1, of(api.Send, 0, edge), of(api.Send, -1, edge))
	add(0, of(api.Send, 0, far(0, 1001)))
	add(0, of(api.Send, 0, far(0, -1)))
	add(0, of(api.Send, 0, edge, edge))
	add(0, of(api.Select, 0))
	add(1, of(api.Send, 0, edge), of(api.Branch, 0, edge, edge, edge, edge, edge, edge, edge, edge, edge))
	add(0, api.Node{Kind: api.Select, IsChan: true, Next: []api.Edge{edge}})
	add(0, ofEnd(api.Send, 0, far(0, 1001), edge))
	add(1, of(api.Send, 0, edge), of(api.Send, 0, far(2, 2)))
	add(1, of(api.Send, 0, edge), of(api.Select, 0, edge, far(-1, 2)))
	add(1, of(api.Send, 0, edge), ofEnd(api.Recv, 0, far(2, 2), edge))
	add(1, of(api.Send, 0, edge), alias(1, 0))
	add(1, of(api.Send, 0, edge), alias(2, 0), alias(1, 0))
	return tables, nodes
}

// many are n nodes that act, each of which goes on to the next one, the last one to the first one; on the way round it rises by each.
func many(n, each int) []api.Node {
	l := make([]api.Node, n)
	for i := range l {
		l[i] = of(acting()[i%4], 0, far((i+1)%n, each))
	}
	return l
}

func TestTablesThatMayNotBe(t *testing.T) {
	tables, nodes := wrong()
	for i, l := range tables {
		node, e := graph.Check(l)
		if e == api.OK || node != nodes[i] {
			t.Fatalf("graph.Check of the table %d: %d, %d", i, node, e)
		}
		wantCheck(t, "a table that may not be", l, node, e)
		for from := -1; from <= len(l); from++ {
			wantNoJump(t, "a table that may not be", l, from, far(0, 2))
			wantNoBack(t, "a table that may not be", l, from)
		}
	}
}

// P5.2

func TestNextThatRises(t *testing.T) {
	for _, kind := range acting() {
		for _, target := range acting() {
			for prio, from := range []int{0, 1, 500, 999, 1000} {
				for _, shift := range []int{0, 1, 2, 999, 1000} {
					l := []api.Node{of(kind, from, far(1, shift)), of(target, prio, far(2, 0)), {}}
					if rise := prio + shift - from; rise >= 1 {
						wantCheck(t, "it rises", l, -1, api.OK)
					} else {
						wantCheck(t, "it does not rise", l, 0, api.ErrOrder)
					}
				}
			}
		}
	}
}

func TestNextAtTheEdge(t *testing.T) {
	for _, at := range []struct {
		prio, shift int
		e           api.Errno
	}{{6, 0, api.OK}, {5, 0, api.ErrOrder}, {4, 0, api.ErrOrder}, {5, 1, api.OK}, {4, 1, api.ErrOrder}, {4, 2, api.OK}, {3, 2, api.ErrOrder}, {0, 6, api.OK}, {0, 5, api.ErrOrder}} {
		node := -1
		if at.e != api.OK {
			node = 1
		}
		wantCheck(t, "a Next", []api.Node{{}, of(api.Send, 5, far(2, at.shift)), of(api.Recv, at.prio, far(0, 0))}, node, at.e)
		wantCheck(t, "a payload", []api.Node{{}, ofEnd(api.Recv, 5, far(2, at.shift), far(0, 0)), of(api.Recv, at.prio, far(0, 0))}, node, at.e)
		wantCheck(t, "through an alias", []api.Node{{}, of(api.Send, 5, far(3, 0)), of(api.Recv, at.prio, far(0, 0)), alias(2, at.shift)}, node, at.e)
		wantCheck(t, "a payload through aliases", []api.Node{{}, ofEnd(api.Send, 5, far(4, at.shift), far(0, 0)), of(api.Recv, at.prio, far(0, 0)), alias(2, 0), alias(3, 0)}, node, at.e)
	}
}

func TestRoundsOfOneNode(t *testing.T) {
	for _, kind := range acting() {
		for _, prio := range []int{0, 3, 1000} {
			wantCheck(t, "by 0", []api.Node{of(kind, prio, far(0, 0))}, 0, api.ErrOrder)
			wantCheck(t, "by 1", []api.Node{of(kind, prio, far(0, 1))}, -1, api.OK)
			wantCheck(t, "by 1 of an alias", []api.Node{of(kind, prio, far(1, 0)), alias(0, 1)}, -1, api.OK)
			wantCheck(t, "by 0 of an alias", []api.Node{of(kind, prio, far(1, 0)), alias(0, 0)}, 0, api.ErrOrder)
		}
	}
}

// labels are so many edges to a node, each with the shift.
func labels(count, node, shift int) []api.Edge {
	l := make([]api.Edge, count)
	for i := range l {
		l[i] = far(node, shift)
	}
	return l
}

func TestEachLabelCounts(t *testing.T) {
	for _, kind := range []int{api.Select, api.Branch} {
		for count := 1; count <= api.MaxLabels; count++ {
			l := []api.Node{of(api.Recv, 4, far(2, 0)), of(kind, 4, labels(count, 0, 1)...), {}}
			wantCheck(t, "each label rises", l, -1, api.OK)
			for i := range count {
				l[1].Next[i] = far(0, 0)
				wantCheck(t, "one label does not rise", l, 1, api.ErrOrder)
				l[1].Next[i] = far(2, 0)
				wantCheck(t, "one label ends", l, -1, api.OK)
				l[1].Next[i] = far(0, 1)
			}
		}
	}
}

func TestEdgesToAnEnd(t *testing.T) {
	for _, prio := range []int{0, 1, 999, 1000} {
		for _, shift := range []int{0, 1, 1000} {
			for _, kind := range acting() {
				wantCheck(t, "a Next to an End", []api.Node{of(kind, prio, far(1, shift)), {}}, -1, api.OK)
				wantCheck(t, "a Next to an alias of an End", []api.Node{of(kind, prio, far(1, shift)), alias(2, 0), {}}, -1, api.OK)
			}
			wantCheck(t, "a payload of an End", []api.Node{ofEnd(api.Send, prio, far(1, shift), far(1, 0)), {}}, -1, api.OK)
			wantCheck(t, "a payload of an alias of an End", []api.Node{ofEnd(api.Recv, prio, far(2, shift), far(1, 0)), {}, alias(1, 0)}, -1, api.OK)
		}
	}
}

func TestThePayloadCountsBesideNext(t *testing.T) {
	for _, kind := range []int{api.Send, api.Recv} {
		l := []api.Node{ofEnd(kind, 2, far(1, 3), far(2, 3)), of(api.Send, 0, far(3, 0)), of(api.Recv, 0, far(3, 0)), {}}
		wantCheck(t, "both rise", l, -1, api.OK)
		l[0].Pay.Shift = 2
		wantCheck(t, "the payload does not rise", l, 0, api.ErrOrder)
		l[0].Next[0].Shift = 2
		wantCheck(t, "neither rises", l, 0, api.ErrOrder)
		l[0].Pay.Shift = 3
		wantCheck(t, "Next does not rise", l, 0, api.ErrOrder)
		l[0].Next[0].To = 3
		wantCheck(t, "Next ends", l, -1, api.OK)
	}
}

// The Pay of a word is zero, which is no edge to the node 0.
func TestAWordIsNoPayload(t *testing.T) {
	for _, kind := range acting() {
		wantCheck(t, "a word", []api.Node{of(api.Send, 0, far(2, 0)), of(kind, 5, far(2, 0)), {}}, -1, api.OK)
		wantCheck(t, "a word, at the node 0", []api.Node{of(kind, 5, far(1, 0)), {}}, -1, api.OK)
	}
}

func TestNodesThatDoNotAct(t *testing.T) {
	wantCheck(t, "an End alone", []api.Node{{}}, -1, api.OK)
	wantCheck(t, "an Alias at the priority 0", []api.Node{of(api.Send, 0, far(2, 0)), alias(0, 0), {}}, -1, api.OK)
	wantCheck(t, "an Alias of an End", []api.Node{alias(1, 0), {}}, -1, api.OK)
	wantCheck(t, "an Alias of an Alias", []api.Node{alias(1, 0), alias(2, 0), of(api.Branch, 0, far(0, 1))}, -1, api.OK)
}

func TestOfSeveralTheFirstIsTold(t *testing.T) {
	good, level, pays := of(api.Send, 1, far(1, 1)), of(api.Recv, 1, far(1, 0)), ofEnd(api.Send, 9, far(1, 0), far(0, 0))
	wantCheck(t, "Next ahead of a payload", []api.Node{{}, good, level, pays}, 2, api.ErrOrder)
	wantCheck(t, "a payload ahead of Next", []api.Node{{}, good, pays, level}, 2, api.ErrOrder)
	wantCheck(t, "the last one", []api.Node{{}, good, good, level}, 3, api.ErrOrder)
	wantCheck(t, "each one", []api.Node{level, level, level}, 0, api.ErrOrder)
	wantCheck(t, "behind an alias", []api.Node{alias(1, 0), level}, 1, api.ErrOrder)
}

func TestGraphsErrorsComeAhead(t *testing.T) {
	level := of(api.Send, 0, far(0, 0))
	wantCheck(t, "no nodes", nil, -1, api.ErrArg)
	wantCheck(t, "no nodes, but a list", []api.Node{}, -1, api.ErrArg)
	wantCheck(t, "too many", many(65, 0), -1, api.ErrLong)
	wantCheck(t, "no shape", []api.Node{level, level, {Prio: 1}}, 2, api.ErrKind)
	wantCheck(t, "an edge that leads out", []api.Node{level, of(api.Send, 0, far(2, 0))}, 1, api.ErrOpen)
	wantCheck(t, "a payload that leads out", []api.Node{level, ofEnd(api.Send, 0, far(2, 0), far(0, 1))}, 1, api.ErrOpen)
	wantCheck(t, "a way that comes to none", []api.Node{level, alias(1, 0)}, 1, api.ErrAlias)
	wantCheck(t, "one node wrong in both", []api.Node{of(api.Select, 5, far(0, 0), far(1, 0))}, 0, api.ErrOpen)
}

func TestCheckOfMaxNodes(t *testing.T) {
	wantCheck(t, "each rises", many(64, 1), -1, api.OK)
	wantCheck(t, "none rises", many(64, 0), 0, api.ErrOrder)
	for _, i := range []int{0, 1, 31, 62, 63} {
		l := many(64, 1)
		l[i].Next[0].Shift = 0
		wantCheck(t, "all but one rise", l, i, api.ErrOrder)
	}
}

// P5.3

func TestNoWayBack(t *testing.T) {
	l := []api.Node{of(api.Send, 0, far(1, 0)), of(api.Recv, 1, far(2, 0)), of(api.Branch, 2, far(3, 0), far(3, 1)), {}}
	for i := range l {
		wantNoBack(t, "a way to an End", l, i)
	}
	l = []api.Node{of(api.Send, 0, far(1, 0)), of(api.Recv, 1, far(2, 0)), of(api.Select, 2, far(1, 5), far(3, 0)), {}}
	wantNoBack(t, "a way into a round", l, 0)
	wantBack(t, "on the round", l, 1, 5)
	wantBack(t, "on the round", l, 2, 5)
}

func TestOneWayBack(t *testing.T) {
	for _, kind := range acting() {
		for _, shift := range []int{1, 2, 998, 999} {
			wantBack(t, "of itself", []api.Node{of(kind, 6, far(0, shift))}, 0, shift)
			wantBack(t, "of itself through aliases", []api.Node{of(kind, 6, far(2, 0)), alias(0, 3), alias(1, shift)}, 0, shift+3)
			l := []api.Node{{}, of(kind, 6, far(2, 0)), of(api.Send, 7, far(1, shift+1))}
			wantBack(t, "over another one", l, 1, shift+1)
			wantBack(t, "over another one", l, 2, shift+1)
		}
	}
}

// The shortest way back rises by 100, that of three edges by 12, and that of two by 50.
func TestNotTheShortestRisesLeast(t *testing.T) {
	for _, kind := range []int{api.Select, api.Branch} {
		next := []api.Edge{far(0, 100), far(1, 49), far(2, 0), far(4, 0)}
		for turn := range next {
			l := []api.Node{
				of(kind, 0, append(append([]api.Edge(nil), next[turn:]...), next[:turn]...)...),
				of(api.Send, 1, far(0, 2)),
				of(api.Send, 10, far(3, 1)),
				of(api.Recv, 10, far(0, 11)),
				{},
			}
			wantBack(t, "three edges", l, 0, 12)
			wantBack(t, "of one on it", l, 2, 12)
			wantBack(t, "of one on it", l, 3, 12)
			wantBack(t, "of one beside it", l, 1, 51)
		}
	}
}

// A node that was met at first by one edge is met later by more of them, and lower: its way goes on from there.
func TestAWayThatIsFoundLower(t *testing.T) {
	l := []api.Node{
		of(api.Select, 0, far(1, 90), far(2, 1)),
		of(api.Send, 0, far(4, 1)),
		of(api.Send, 0, far(3, 1)),
		of(api.Send, 0, far(1, 1)),
		of(api.Branch, 0, far(0, 1), far(2, 1)),
	}
	wantBack(t, "by the lower way", l, 0, 5)
	wantBack(t, "of a round inside", l, 1, 4)
	wantBack(t, "of a round inside", l, 2, 4)
	wantBack(t, "of a round inside", l, 3, 4)
	wantBack(t, "of a round inside", l, 4, 4)
}

// A way that meets the node on the way is none: it is two of them.
func TestWaysThatMeetTheNodeOnTheWay(t *testing.T) {
	l := []api.Node{of(api.Select, 0, far(1, 3), far(2, 8)), of(api.Send, 0, far(0, 4)), of(api.Recv, 0, far(0, 1))}
	wantBack(t, "two ways", l, 0, 7)
	wantBack(t, "one of them", l, 1, 7)
	wantBack(t, "the other one", l, 2, 9)
	l = []api.Node{of(api.Select, 0, far(0, 1), far(1, 1)), of(api.Branch, 0, far(0, 6), far(1, 2))}
	wantBack(t, "itself, and another one", l, 0, 1)
	wantBack(t, "another one, and itself", l, 1, 2)
	l[1].Next[1].Shift = 9
	wantBack(t, "the other one, over it", l, 1, 7)
}

func TestPayloadsAreNoWayBack(t *testing.T) {
	for _, kind := range []int{api.Send, api.Recv} {
		l := []api.Node{ofEnd(kind, 0, far(0, 1), far(1, 0)), {}}
		wantNoBack(t, "a payload of itself", l, 0)
		l = []api.Node{ofEnd(kind, 0, far(1, 1), far(2, 1)), of(api.Send, 0, far(0, 1)), {}}
		wantNoBack(t, "a payload of what goes on with it", l, 0)
		wantNoBack(t, "of what goes on with it", l, 1)
		l = []api.Node{ofEnd(kind, 0, far(0, 1), far(0, 5))}
		wantBack(t, "a payload that rises less", l, 0, 5)
	}
}

func TestBackOfNoNodeThatActs(t *testing.T) {
	l := []api.Node{of(api.Send, 0, far(2, 3)), {}, alias(0, 2), alias(2, 0), of(api.Select, 0, far(1, 0), far(3, 1))}
	wantBack(t, "over an alias", l, 0, 5)
	wantNoBack(t, "an End", l, 1)
	wantNoBack(t, "an alias on the way", l, 2)
	wantNoBack(t, "an alias of it", l, 3)
	wantNoBack(t, "one that goes into the round", l, 4)
	for _, odd := range append(oddNumbers(), len(l), len(l)+1, 64) {
		wantNoBack(t, "none of the table", l, odd)
	}
}

// One node that is wrong spoils all ways back, also where none of them meets it.
func TestBackWhereCheckAnswersAnError(t *testing.T) {
	l := []api.Node{of(api.Send, 0, far(0, 3)), {}}
	wantBack(t, "a round", l, 0, 3)
	for _, odd := range []api.Node{of(api.Send, 0, far(2, 0)), ofEnd(api.Recv, 7, far(0, 7), far(1, 0)), {Prio: 1}, alias(2, 0), alias(3, 0), {Kind: 9}} {
		wantNoBack(t, "beside a wrong one", append(deep(l), odd), 0)
	}
}

func TestBackOfMaxNodes(t *testing.T) {
	for _, n := range []int{1, 2, 63, 64} {
		for _, each := range []int{1, 3, 1000} {
			l := many(n, each)
			for _, i := range []int{0, n / 2, n - 1} {
				wantBack(t, "a round of all nodes", l, i, n*each)
			}
		}
		wantNoBack(t, "none rises", many(n, 0), 0)
		wantNoBack(t, "too many", many(n+64, 1), 0)
	}
}

// The least way back goes through all nodes, while the edges beside it reach each of them sooner and higher.
func TestALongWayThatIsFoundLowerEachTime(t *testing.T) {
	const n = 64
	l := make([]api.Node, n)
	for i := range l {
		l[i] = of(acting()[2+i%2], 0, far((i+1)%n, 1))
		for label := 1; label < 8 && i+8*label < n; label++ {
			l[i].Next = append(l[i].Next, far(i+8*label, 16*label))
		}
	}
	for i := range l {
		wantBack(t, "a way through all nodes", l, i, n)
	}
}

// P5.1 to P5.4 against a plain reading of the chapter

// plainRise goes along an edge of a node: the node it comes to, and how far it rises; not, if that is an End.
func plainRise(nodes []api.Node, from int, e api.Edge) (to, rise int, goesOn bool) {
	shift := e.Shift
	to = e.To
	for nodes[to].Kind == api.Alias {
		shift += nodes[to].Next[0].Shift
		to = nodes[to].Next[0].To
	}
	if nodes[to].Kind == api.End {
		return 0, 0, false
	}
	return to, nodes[to].Prio + shift - nodes[from].Prio, true
}

// plainActs tells whether a node acts.
func plainActs(n api.Node) bool {
	return n.Kind == api.Send || n.Kind == api.Recv || n.Kind == api.Select || n.Kind == api.Branch
}

// plainEdges are a node's Next, and its payload, if it is an endpoint.
func plainEdges(n api.Node) []api.Edge {
	l := append([]api.Edge(nil), n.Next...)
	if n.IsChan {
		l = append(l, n.Pay)
	}
	return l
}

// plainCheck is Check, word by word.
func plainCheck(nodes []api.Node) (int, api.Errno) {
	if node, e := graph.Check(nodes); e != api.OK {
		return node, e
	}
	for i, n := range nodes {
		for _, e := range plainEdges(n) {
			if _, rise, goesOn := plainRise(nodes, i, e); plainActs(n) && goesOn && rise < 1 {
				return i, api.ErrOrder
			}
		}
	}
	return -1, api.OK
}

// plainBack looks at ways from the node of one edge, two edges and so on, to each other node the one that rises least; no way of more edges than there are nodes rises less.
func plainBack(nodes []api.Node, node int) (int, bool) {
	best, has := 0, false
	lowest := map[int]int{node: 0}
	for range nodes {
		longer := map[int]int{}
		for at, sofar := range lowest {
			for _, e := range nodes[at].Next {
				to, rise, goesOn := plainRise(nodes, at, e)
				if !goesOn {
					continue
				}
				if to == node {
					if !has || sofar+rise < best {
						best, has = sofar+rise, true
					}
					continue
				}
				if old, isMet := longer[to]; !isMet || sofar+rise < old {
					longer[to] = sofar + rise
				}
			}
		}
		lowest = longer
	}
	return best, has
}

// allBack hands over each way back of a node that meets none of the others twice: how many edges it has, and how far it rises.
func allBack(nodes []api.Node, node int, each func(edges, rise int)) {
	met := make([]bool, len(nodes))
	var from func(at, edges, sofar int)
	from = func(at, edges, sofar int) {
		for _, e := range nodes[at].Next {
			to, rise, goesOn := plainRise(nodes, at, e)
			switch {
			case !goesOn || met[to]:
			case to == node:
				each(edges+1, sofar+rise)
			default:
				met[to] = true
				from(to, edges+1, sofar+rise)
				met[to] = false
			}
		}
	}
	from(node, 0, 0)
}

// found tells what tables were met: how many have which error, how many nodes have a way back.
type found struct {
	errors map[api.Errno]int
	backs  int
}

// wantAsPlain holds the calls of a table against the plain reading, and, if all is well with it, against what follows.
func wantAsPlain(t *testing.T, nodes []api.Node, so *found) {
	t.Helper()
	was := deep(nodes)
	node, e := plainCheck(nodes)
	so.errors[e]++
	if n, got := order.Check(nodes); n != node || got != e {
		t.Errorf("Check: %d, %d, but %d, %d is asked for", n, got, node, e)
	}
	_, shape := graph.Check(nodes)
	for i := -1; i <= len(nodes); i++ {
		isNode := 0 <= i && i < len(nodes)
		rise, has := 0, false
		if e == api.OK && isNode && plainActs(nodes[i]) {
			rise, has = plainBack(nodes, i)
		}
		if has {
			so.backs++
		}
		if got, ok := order.Back(nodes, i); got != rise || ok != has {
			t.Errorf("Back of %d: %d, %v, but %d, %v is asked for", i, got, ok, rise, has)
		}
		if len(nodes) < 16 {
			wantJumpsAsPlain(t, nodes, i, shape)
		}
	}
	if e == api.OK {
		wantWhatFollows(t, nodes)
	}
	wantKept(t, "a table", nodes, was)
	if t.Failed() {
		t.Fatalf("of the table %v", was)
	}
}

// wantJumpsAsPlain holds Jump from a node, to each place of a table and out of it, against the plain reading.
func wantJumpsAsPlain(t *testing.T, nodes []api.Node, from int, shape api.Errno) {
	t.Helper()
	for to := -1; to <= len(nodes); to++ {
		for _, shift := range []int{0, 1, 7} {
			rise, goesOn := 0, false
			if shape == api.OK && 0 <= from && from < len(nodes) && 0 <= to && to < len(nodes) {
				_, rise, goesOn = plainRise(nodes, from, far(to, shift))
			}
			if got, ok := order.Jump(nodes, from, far(to, shift)); got != rise || ok != goesOn {
				t.Errorf("Jump from %d to %d: %d, %v, but %d, %v is asked for", from, to, got, ok, rise, goesOn)
			}
		}
	}
}

// wantWhatFollows asks for P5.4 of a table whose Check is OK: each edge rises, from each type that unfolds; each way back rises by as many as it has edges, at least.
func wantWhatFollows(t *testing.T, nodes []api.Node) {
	t.Helper()
	for i, n := range nodes {
		if !plainActs(n) {
			continue
		}
		for _, e := range plainEdges(n) {
			if rise, goesOn := order.Jump(nodes, i, e); goesOn && rise < 1 || !goesOn && rise != 0 {
				t.Errorf("the edge %v of %d rises by %d", e, i, rise)
			}
		}
		wantUnfoldingRises(t, nodes, i)
		if len(nodes) > 6 {
			continue
		}
		least, has := order.Back(nodes, i)
		lowest, isThere := math.MaxInt, false
		allBack(nodes, i, func(edges, rise int) {
			if rise < edges {
				t.Errorf("a way back of %d with %d edges rises by %d", i, edges, rise)
			}
			lowest, isThere = min(lowest, rise), true
		})
		if isThere != has || has && lowest != least {
			t.Errorf("the ways back of %d rise by %d at least, and Back tells %d", i, lowest, least)
		}
	}
}

// wantUnfoldingRises goes on from a node along edges, each time another one, and asks whether each type's priority is above the one ahead of it.
func wantUnfoldingRises(t *testing.T, nodes []api.Node, node int) {
	t.Helper()
	at := api.Type{Node: node, Offset: node}
	for step := range 20 {
		all := plainEdges(nodes[at.Node])
		e := all[step%len(all)]
		next := graph.Resolve(nodes, api.Type{Node: e.To, Offset: at.Offset + e.Shift})
		if nodes[next.Node].Kind == api.End {
			return
		}
		rise := nodes[next.Node].Prio + next.Offset - nodes[at.Node].Prio - at.Offset
		if jump, goesOn := order.Jump(nodes, at.Node, e); rise < 1 || !goesOn || jump != rise {
			t.Errorf("from %v to %v priorities rise by %d, and Jump tells %d", at, next, rise, jump)
		}
		at = next
	}
}

// All tables of up to three nodes, of some that count.
func TestAllSmallTables(t *testing.T) {
	so := found{errors: map[api.Errno]int{}}
	for n := 1; n <= 3; n++ {
		pool := []api.Node{{}, {Prio: 1}}
		for goal := range n {
			pool = append(pool, alias(goal, goal), of(api.Send, 0, far(goal, 1)), of(api.Recv, 1, far(goal, 1)), of(api.Recv, 2, far(goal, 0)),
				ofEnd(api.Send, 1, far(goal, 2), far(0, 1)), of(api.Branch, 1, far(goal, 2), far(0, 3)), of(api.Select, 0, far(n-1, 3), far(goal, 1)))
		}
		pool = append(pool, of(api.Send, 0, far(n, 1)))
		for l := range tables.All(n, pool) {
			wantAsPlain(t, l, &so)
		}
	}
	for _, e := range []api.Errno{api.OK, api.ErrKind, api.ErrOpen, api.ErrAlias, api.ErrOrder} {
		if so.errors[e] < 10 {
			t.Errorf("just %d tables have the error %d", so.errors[e], e)
		}
	}
	if so.backs < 1000 {
		t.Errorf("just %d nodes have a way back", so.backs)
	}
}

func TestMixedTables(t *testing.T) {
	r := tables.Row(5)
	so := found{errors: map[api.Errno]int{}}
	for round := range 4000 {
		n := 1 + r.Below(12)
		if round%20 == 0 {
			n = 55 + r.Below(10)
		}
		prios := 1 + r.Below(30)
		least := prios
		if r.Below(3) == 0 {
			least = max(0, prios-1-r.Below(2*n))
		}
		l := tables.Mixed(&r, n, prios, least)
		if r.Below(10) == 0 {
			l[r.Below(n)] = api.Node{Kind: r.Below(7), Next: []api.Edge{far(r.Below(n+1), 0)}}
		}
		wantAsPlain(t, l, &so)
	}
	for _, e := range []api.Errno{api.OK, api.ErrKind, api.ErrOpen, api.ErrAlias, api.ErrOrder} {
		if so.errors[e] < 10 {
			t.Errorf("just %d tables have the error %d", so.errors[e], e)
		}
	}
	if so.errors[api.OK] < 1000 || so.backs < 1000 {
		t.Errorf("by their errors: %v; ways back: %d", so.errors, so.backs)
	}
}
