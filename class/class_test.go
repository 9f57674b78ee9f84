package class_test

import (
	"math"
	"slices"
	"testing"

	"colloquy/api"
	"colloquy/class"
	"colloquy/dual"
	"colloquy/facts"
	"colloquy/graph"
	"colloquy/order"
	"colloquy/tables"
)

// How tables of types are laid, and held against each other.
var (
	far, of, ofEnd, alias  = tables.Far, tables.Of, tables.OfEnd, tables.Alias
	deep, same, oddNumbers = tables.Deep, tables.Same, tables.OddNumbers
)

// at is the type of a node at an Offset.
func at(node, offset int) api.Type { return api.Type{Node: node, Offset: offset} }

// to is the link to a class that rises so far.
func to(class, jump int) api.Link { return api.Link{Class: class, Jump: jump} }

// words is a class of a kind and a dual, of no endpoints, with links along which it goes on.
func words(kind, dual int, next ...api.Link) api.Class {
	return api.Class{Kind: kind, Dual: dual, Next: next}
}

// ends is a class of endpoints.
func ends(kind, dual int, pay, next api.Link) api.Class {
	return api.Class{Kind: kind, Dual: dual, IsChan: true, Pay: pay, Next: []api.Link{next}}
}

// end is the class of all Ends, with its own number.
func end(number int) api.Class { return api.Class{Dual: number} }

// wantOf asks for what Of answers: each class, and of each of the 2N nodes its class and its priority.
func wantOf(t *testing.T, what string, nodes []api.Node, want api.Table) {
	t.Helper()
	was := deep(nodes)
	for range 2 {
		if got, e := class.Of(nodes); e != api.OK || !facts.SameTable(got, want) {
			t.Errorf("%s: %v, %d, but %v is asked for", what, got, e, want)
		}
	}
	if !same(nodes, was) {
		t.Errorf("%s: what was handed in is changed", what)
	}
}

// wantError asks for no table, and this error, which is that of order.Check.
func wantError(t *testing.T, what string, nodes []api.Node, want api.Errno) {
	t.Helper()
	was := deep(nodes)
	if _, e := order.Check(nodes); e != want {
		t.Fatalf("%s: order.Check: %d, but %d is asked for", what, e, want)
	}
	for range 2 {
		if got, e := class.Of(nodes); e != want || !facts.SameTable(got, api.Table{}) {
			t.Errorf("%s: %v, %d, but nothing, and %d, is asked for", what, got, e, want)
		}
	}
	if !same(nodes, was) {
		t.Errorf("%s: what was handed in is changed", what)
	}
}

// made is what Of answers of nodes with which all is well.
func made(t *testing.T, what string, nodes []api.Node) api.Table {
	t.Helper()
	x, e := class.Of(nodes)
	if e != api.OK || len(x.Of) != 2*len(nodes) || len(x.Prio) != 2*len(nodes) {
		t.Fatalf("%s: %v, %d", what, x, e)
	}
	return x
}

// wantClasses asks for the classes of the 2N nodes.
func wantClasses(t *testing.T, what string, nodes []api.Node, of ...int) {
	t.Helper()
	if got := made(t, what, nodes).Of; !slices.Equal(got, of) {
		t.Errorf("%s: the classes %v, but %v are asked for", what, got, of)
	}
}

// wantPrios asks for the priorities of the 2N nodes.
func wantPrios(t *testing.T, what string, nodes []api.Node, prios ...int) {
	t.Helper()
	if got := made(t, what, nodes).Prio; !slices.Equal(got, prios) {
		t.Errorf("%s: the priorities %v, but %v are asked for", what, got, prios)
	}
}

// wantAlike asks whether two nodes are of one class, and so are their duals.
func wantAlike(t *testing.T, what string, nodes []api.Node, a, b int, alike bool) {
	t.Helper()
	x, n := made(t, what, nodes), len(nodes)
	if (x.Of[a] == x.Of[b]) != alike || (x.Of[(n+a)%(2*n)] == x.Of[(n+b)%(2*n)]) != alike {
		t.Errorf("%s: of %d and %d the classes are %v", what, a, b, x.Of)
	}
}

func wantType(t *testing.T, what string, x api.Table, y api.Type, number, prio int) {
	t.Helper()
	was := facts.RoomyTable(x)
	for range 2 {
		if c, p := class.Type(x, y); c != number || p != prio {
			t.Errorf("%s: Type of %v: %d, %d, but %d, %d is asked for", what, y, c, p, number, prio)
		}
	}
	if !facts.SameTable(x, was) {
		t.Errorf("%s: what was handed in is changed", what)
	}
}

func wantNext(t *testing.T, what string, x api.Table, number, prio, i int, goal, rises int) {
	t.Helper()
	was := facts.RoomyTable(x)
	for range 2 {
		if c, p := class.Next(x, number, prio, i); c != goal || p != rises {
			t.Errorf("%s: Next %d of %d at %d: %d, %d, but %d, %d is asked for", what, i, number, prio, c, p, goal, rises)
		}
	}
	if !facts.SameTable(x, was) {
		t.Errorf("%s: what was handed in is changed", what)
	}
}

func wantPay(t *testing.T, what string, x api.Table, number, prio int, goal, rises int) {
	t.Helper()
	was := facts.RoomyTable(x)
	for range 2 {
		if c, p := class.Pay(x, number, prio); c != goal || p != rises {
			t.Errorf("%s: Pay of %d at %d: %d, %d, but %d, %d is asked for", what, number, prio, c, p, goal, rises)
		}
	}
	if !facts.SameTable(x, was) {
		t.Errorf("%s: what was handed in is changed", what)
	}
}

// The chapter's examples

func TestExamples(t *testing.T) {
	wantOf(t, "a Send", []api.Node{of(api.Send, 0, far(1, 0)), {}}, api.Table{
		Classes: []api.Class{words(api.Send, 2, to(1, 0)), end(1), words(api.Recv, 0, to(1, 0))},
		Of:      []int{0, 1, 2, 1},
		Prio:    []int{0, 0, 0, 0},
	})
	wantOf(t, "two rounds", []api.Node{of(api.Send, 0, far(1, 0)), of(api.Recv, 1, far(0, 3)), of(api.Send, 5, far(3, 0)), of(api.Recv, 6, far(2, 3))}, api.Table{
		Classes: []api.Class{words(api.Send, 2, to(1, 1)), words(api.Recv, 3, to(0, 2)), words(api.Recv, 0, to(3, 1)), words(api.Send, 1, to(2, 2))},
		Of:      []int{0, 1, 0, 1, 2, 3, 2, 3},
		Prio:    []int{0, 1, 5, 6, 0, 1, 5, 6},
	})
	wantOf(t, "two Sends", []api.Node{of(api.Send, 0, far(0, 1)), of(api.Send, 0, far(0, 2)), {}}, api.Table{
		Classes: []api.Class{words(api.Send, 3, to(0, 1)), words(api.Send, 4, to(0, 2)), end(2), words(api.Recv, 0, to(3, 1)), words(api.Recv, 1, to(3, 2))},
		Of:      []int{0, 1, 2, 3, 4, 2},
		Prio:    []int{0, 0, 0, 0, 0, 0},
	})
	wantOf(t, "a round and its dual", []api.Node{of(api.Send, 0, far(1, 0)), of(api.Recv, 1, far(0, 2))}, api.Table{
		Classes: []api.Class{words(api.Send, 1, to(1, 1)), words(api.Recv, 0, to(0, 1))},
		Of:      []int{0, 1, 1, 0},
		Prio:    []int{0, 1, 0, 1},
	})
}

// P7.1, errors

func TestErrorsOfOrder(t *testing.T) {
	wantError(t, "none", nil, api.ErrArg)
	wantError(t, "no nodes, but a list", []api.Node{}, api.ErrArg)
	wantError(t, "a list of a longer one", make([]api.Node, 3)[:0], api.ErrArg)
	for _, n := range []int{65, 66, 127, 128, 129, 1000} {
		wantError(t, "too many Ends", make([]api.Node, n), api.ErrLong)
	}
	for _, kind := range append(oddNumbers(), api.LastKind+1) {
		wantError(t, "a wrong kind", []api.Node{{}, of(kind, 0, far(0, 0))}, api.ErrKind)
	}
	for _, odd := range oddNumbers() {
		wantError(t, "a wrong priority", []api.Node{{}, of(api.Send, odd, far(0, 0))}, api.ErrKind)
		wantError(t, "a wrong shift", []api.Node{{}, of(api.Branch, 0, far(0, odd))}, api.ErrKind)
		wantError(t, "an edge that leads out", []api.Node{{}, of(api.Send, 0, far(odd, 0))}, api.ErrOpen)
		wantError(t, "a payload that leads out", []api.Node{{}, ofEnd(api.Recv, 0, far(odd, 0), far(0, 0))}, api.ErrOpen)
		wantError(t, "an alias that leads out", []api.Node{{}, alias(odd, 0)}, api.ErrOpen)
	}
	wantError(t, "too many labels", []api.Node{{}, of(api.Select, 0, make([]api.Edge, 9)...)}, api.ErrKind)
	wantError(t, "a word with an edge", []api.Node{{Kind: api.Send, Pay: far(0, 1), Next: []api.Edge{far(0, 5)}}}, api.ErrKind)
	wantError(t, "an edge into the second half", []api.Node{{}, of(api.Send, 0, far(2, 0))}, api.ErrOpen)
	wantError(t, "an alias of itself", []api.Node{alias(0, 1)}, api.ErrAlias)
	wantError(t, "aliases that go round", []api.Node{{}, alias(2, 1), alias(1, 0), of(api.Send, 0, far(0, 1))}, api.ErrAlias)
}

func TestPrioritiesThatDoNotRise(t *testing.T) {
	wantError(t, "a level round", []api.Node{of(api.Send, 5, far(0, 0))}, api.ErrOrder)
	wantError(t, "a round", []api.Node{of(api.Send, 0, far(1, 0)), of(api.Recv, 1, far(0, 1))}, api.ErrOrder)
	wantError(t, "one that falls", []api.Node{of(api.Branch, 9, far(1, 0)), of(api.Recv, 8, far(2, 0)), {}}, api.ErrOrder)
	wantError(t, "the last of several", []api.Node{of(api.Select, 5, far(1, 0), far(0, 1), far(0, 0)), {}}, api.ErrOrder)
	wantError(t, "a payload", []api.Node{ofEnd(api.Send, 0, far(0, 0), far(1, 0)), {}}, api.ErrOrder)
	wantError(t, "over an alias", []api.Node{of(api.Recv, 9, far(1, 2)), alias(2, 3), of(api.Send, 4, far(3, 0)), {}}, api.ErrOrder)
}

// P7.1, which nodes are alike

func TestOneNode(t *testing.T) {
	wantOf(t, "an End", []api.Node{{}}, api.Table{Classes: []api.Class{end(0)}, Of: []int{0, 0}, Prio: []int{0, 0}})
	for _, shift := range []int{1, 2, 1000} {
		wantOf(t, "a Send", []api.Node{of(api.Send, 4, far(0, shift))}, api.Table{
			Classes: []api.Class{words(api.Send, 1, to(0, shift)), words(api.Recv, 0, to(1, shift))},
			Of:      []int{0, 1}, Prio: []int{4, 4},
		})
		wantOf(t, "a Recv of itself", []api.Node{ofEnd(api.Recv, 1000, far(0, shift), far(0, 3))}, api.Table{
			Classes: []api.Class{ends(api.Recv, 1, to(0, shift), to(0, 3)), ends(api.Send, 0, to(0, shift), to(1, 3))},
			Of:      []int{0, 1}, Prio: []int{1000, 1000},
		})
		wantOf(t, "a Select", []api.Node{of(api.Select, 0, far(0, shift), far(0, 7), far(0, 1))}, api.Table{
			Classes: []api.Class{words(api.Select, 1, to(0, shift), to(0, 7), to(0, 1)), words(api.Branch, 0, to(1, shift), to(1, 7), to(1, 1))},
			Of:      []int{0, 1}, Prio: []int{0, 0},
		})
	}
}

func TestAllEndsAreAlike(t *testing.T) {
	for _, n := range []int{1, 2, 3, 63, 64} {
		wantOf(t, "Ends", make([]api.Node, n), api.Table{Classes: []api.Class{end(0)}, Of: make([]int, 2*n), Prio: make([]int, 2*n)})
	}
	wantClasses(t, "Ends beside others", []api.Node{{}, of(api.Send, 3, far(0, 0)), {}, of(api.Send, 3, far(2, 0)), alias(2, 8)}, 0, 1, 0, 1, 0, 0, 2, 0, 2, 0)
}

// An edge to an End does not rise, whatever its shift is.
func TestShiftsToEndsCountForNothing(t *testing.T) {
	wantAlike(t, "Sends to Ends", []api.Node{{}, of(api.Send, 0, far(0, 0)), of(api.Send, 0, far(0, 1000))}, 1, 2, true)
	wantAlike(t, "Sends of Ends", []api.Node{{}, ofEnd(api.Send, 9, far(0, 0), far(0, 3)), ofEnd(api.Send, 9, far(2, 1000), far(0, 5))}, 1, 2, false)
	wantAlike(t, "Sends of Ends", []api.Node{{}, ofEnd(api.Send, 9, far(0, 0), far(0, 3)), ofEnd(api.Send, 9, far(0, 1000), far(0, 5))}, 1, 2, true)
	wantAlike(t, "over aliases", []api.Node{{}, of(api.Select, 0, far(0, 0), far(3, 4)), of(api.Select, 0, far(3, 6), far(4, 0)), alias(0, 9), alias(3, 90)}, 1, 2, true)
}

// An edge rises as the priorities of both its ends say, not as its shift alone.
func TestPrioritiesAddedToAll(t *testing.T) {
	l := []api.Node{
		of(api.Branch, 0, far(1, 4), far(2, 9), far(0, 20)), ofEnd(api.Send, 2, far(0, 11), far(2, 0)), {},
		of(api.Branch, 300, far(4, 4), far(5, 9), far(3, 20)), ofEnd(api.Send, 302, far(3, 11), far(5, 70)), {},
	}
	wantOf(t, "a copy that is 300 above", l, api.Table{
		Classes: []api.Class{
			words(api.Branch, 3, to(1, 6), to(2, 0), to(0, 20)), ends(api.Send, 4, to(0, 9), to(2, 0)), end(2),
			words(api.Select, 0, to(4, 6), to(2, 0), to(3, 20)), ends(api.Recv, 1, to(0, 9), to(2, 0)),
		},
		Of:   []int{0, 1, 2, 0, 1, 2, 3, 4, 2, 3, 4, 2},
		Prio: []int{0, 2, 0, 300, 302, 0, 0, 2, 0, 300, 302, 0},
	})
	l[0].Next[0], l[3].Next[0] = far(4, 4), far(1, 304)
	wantClasses(t, "an edge that rises another way", l, 0, 1, 2, 3, 4, 2, 5, 6, 2, 7, 8, 2)
	l[0].Next[0] = far(1, 4)
	wantClasses(t, "edges of both to one", l, 0, 1, 2, 0, 1, 2, 3, 4, 2, 3, 4, 2)
}

func TestNodesThatDifferInTheirKind(t *testing.T) {
	for _, k := range []int{api.Send, api.Recv, api.Select, api.Branch} {
		for _, j := range []int{api.Send, api.Recv, api.Select, api.Branch} {
			wantAlike(t, "to an End", []api.Node{{}, of(k, 1, far(0, 0)), of(j, 1, far(0, 0))}, 1, 2, j == k)
			wantAlike(t, "to themselves", []api.Node{of(k, 1, far(0, 2)), of(j, 1, far(1, 2))}, 0, 1, j == k)
			wantAlike(t, "to each other", []api.Node{of(k, 1, far(1, 2)), of(j, 1, far(0, 2))}, 0, 1, j == k)
		}
		wantAlike(t, "one that acts, and an End", []api.Node{{}, of(k, 0, far(0, 0))}, 0, 1, false)
	}
}

// The class 0 is that of the payload: it is told from no payload all the same.
func TestWordsAndEndpoints(t *testing.T) {
	for _, k := range []int{api.Send, api.Recv} {
		wantAlike(t, "a word, and an End", []api.Node{{}, of(k, 0, far(0, 0)), ofEnd(k, 0, far(0, 0), far(0, 0))}, 1, 2, false)
		wantAlike(t, "a word, and an endpoint", []api.Node{of(k, 0, far(0, 1)), ofEnd(k, 0, far(0, 1), far(1, 1))}, 0, 1, false)
		wantAlike(t, "two words", []api.Node{of(k, 0, far(0, 1)), of(k, 9, far(1, 1))}, 0, 1, true)
		wantAlike(t, "two endpoints", []api.Node{ofEnd(k, 0, far(0, 1), far(0, 1)), ofEnd(k, 9, far(1, 1), far(1, 1))}, 0, 1, true)
	}
}

func TestPayloads(t *testing.T) {
	for _, k := range []int{api.Send, api.Recv} {
		// l has payloads, and behind them two nodes that hand over some of them.
		l := func(a, b api.Edge) []api.Node {
			return []api.Node{{}, of(api.Send, 5, far(0, 0)), of(api.Recv, 5, far(0, 0)), of(api.Send, 7, far(0, 9)), alias(1, 2),
				ofEnd(k, 0, a, far(0, 0)), ofEnd(k, 1, b, far(0, 0))}
		}
		wantAlike(t, "one payload, as far above", l(far(1, 0), far(1, 1)), 5, 6, true)
		wantAlike(t, "one payload, not as far above", l(far(1, 0), far(1, 0)), 5, 6, false)
		wantAlike(t, "one payload, not as far above", l(far(1, 3), far(1, 5)), 5, 6, false)
		wantAlike(t, "a payload of a kind, and of another one", l(far(1, 0), far(2, 1)), 5, 6, false)
		wantAlike(t, "payloads of one class", l(far(1, 3), far(3, 2)), 5, 6, true)
		wantAlike(t, "payloads of one class, not as far above", l(far(1, 3), far(3, 4)), 5, 6, false)
		wantAlike(t, "a payload, and an alias of it", l(far(1, 3), far(4, 2)), 5, 6, true)
		wantAlike(t, "a payload, and an alias of it without its shift", l(far(1, 3), far(4, 4)), 5, 6, false)
		wantAlike(t, "what acts, and an End", l(far(1, 0), far(0, 1)), 5, 6, false)
		wantAlike(t, "two Ends", l(far(0, 0), far(0, 50)), 5, 6, true)
	}
}

// The class 0 is that of the edges that one of them lacks: it is told from none all the same.
func TestHowManyNext(t *testing.T) {
	for _, k := range []int{api.Select, api.Branch} {
		for a := 1; a <= api.MaxLabels; a++ {
			for b := 1; b <= api.MaxLabels; b++ {
				wantAlike(t, "labels of Ends", []api.Node{{}, of(k, 0, make([]api.Edge, a)...), of(k, 0, make([]api.Edge, b)...)}, 1, 2, a == b)
				all := slices.Repeat([]api.Edge{far(0, 4)}, api.MaxLabels)
				wantAlike(t, "labels of one node", []api.Node{of(k, 0, all[:a]...), of(k, 0, all[:b]...)}, 0, 1, a == b)
			}
		}
	}
}

func TestEachNextCounts(t *testing.T) {
	for _, k := range []int{api.Select, api.Branch} {
		for i := range api.MaxLabels {
			l := []api.Node{of(k, 0, far(2, 3), far(3, 3), far(0, 3), far(2, 5), far(4, 0), far(3, 3), far(2, 3), far(0, 9)), {}, of(api.Send, 2, far(4, 0)), of(api.Recv, 2, far(4, 0)), {}}
			l[1] = deep(l)[0]
			wantAlike(t, "all edges are the same", l, 0, 1, true)
			e := l[1].Next[i]
			l[1].Next[i].Shift++
			wantAlike(t, "one rises further", l, 0, 1, e.To == 4)
			l[1].Next[i] = far(5-e.To, e.Shift)
			if e.To == 0 || e.To == 4 {
				l[1].Next[i] = far(2, e.Shift+1)
			}
			wantAlike(t, "one comes to another class", l, 0, 1, false)
		}
	}
	wantAlike(t, "edges the other way round", []api.Node{of(api.Select, 0, far(0, 1), far(2, 0)), of(api.Select, 0, far(2, 0), far(0, 1)), {}}, 0, 1, false)
	wantAlike(t, "edges that rise the other way round", []api.Node{of(api.Branch, 0, far(0, 1), far(0, 2)), of(api.Branch, 0, far(0, 2), far(0, 1))}, 0, 1, false)
}

// twoWays is two ways of n Sends each, one behind the other, to an End each; their first nodes are 0 and n + 1.
func twoWays(n int) []api.Node {
	l := make([]api.Node, 2*n+2)
	for i := range n {
		l[i], l[n+1+i] = of(api.Send, i, far(i+1, 0)), of(api.Send, 100+i, far(n+2+i, 0))
	}
	return l
}

func TestWhatDiffersFarAlongTheWay(t *testing.T) {
	for _, n := range []int{1, 2, 3, 10, 31} {
		l := twoWays(n)
		wantAlike(t, "two ways", l, 0, n+1, true)
		last := 2 * n
		for i, other := range []api.Node{
			of(api.Recv, l[last].Prio, l[last].Next...),
			ofEnd(api.Send, l[last].Prio, far(n, 0), l[last].Next[0]),
			of(api.Select, l[last].Prio, l[last].Next...),
			of(api.Send, l[last].Prio, far(last, 1)),
			of(api.Send, l[last].Prio, far(0, 900)),
			{},
		} {
			changed := deep(l)
			changed[last] = other
			for j := range n {
				wantAlike(t, "two ways of which the last node differs", changed, j, n+1+j, false)
			}
			if _, e := order.Check(changed); e != api.OK {
				t.Errorf("the last node %d: %d", i, e)
			}
		}
		wantAlike(t, "a way, and one that is shorter", l, 0, n+2, false)
		l[last].Prio++
		wantAlike(t, "one rises further to the last one", l, 0, n+1, n == 1)
	}
}

// The first edges of both rounds rise by 41, those back to the beginning by 9.
func TestRoundsThatDifferInOneNode(t *testing.T) {
	const n = 32
	l := make([]api.Node, 2*n)
	for i := range n {
		l[i], l[n+i] = of(api.Branch, i, far((i+1)%n, 40), far(i, 5)), of(api.Branch, 7*i, far(n+(i+1)%n, 34), far(n+i, 5))
	}
	l[2*n-1].Next[0].Shift = 9 + 7*(n-1)
	for i := range n {
		wantAlike(t, "two rounds", l, i, n+i, true)
		wantAlike(t, "two nodes of a round", l, i, (i+1)%n, false)
	}
	l[n+5].Next[1].Shift++
	for i := range n {
		wantAlike(t, "two rounds that differ", l, i, n+i, false)
	}
}

func TestPayloadsThatDifferFarAlongTheWay(t *testing.T) {
	l := []api.Node{
		ofEnd(api.Send, 0, far(1, 0), far(8, 0)), ofEnd(api.Recv, 1, far(2, 0), far(8, 0)), of(api.Select, 2, far(8, 0), far(3, 0)), of(api.Send, 3, far(8, 0)),
		ofEnd(api.Send, 10, far(5, 0), far(8, 0)), ofEnd(api.Recv, 11, far(6, 0), far(8, 0)), of(api.Select, 12, far(8, 0), far(7, 0)), of(api.Send, 13, far(8, 0)),
		{},
	}
	wantClasses(t, "payloads of payloads", l, 0, 1, 2, 3, 0, 1, 2, 3, 4, 5, 6, 7, 8, 5, 6, 7, 8, 4)
	l[7].Kind = api.Recv
	wantClasses(t, "payloads of payloads, of which the last ones differ", l, 0, 1, 2, 3, 4, 5, 6, 7, 8, 9, 10, 11, 7, 12, 13, 14, 3, 8)
}

func TestAliases(t *testing.T) {
	l := []api.Node{alias(1, 2), alias(3, 30), {}, of(api.Send, 5, far(0, 1)), alias(2, 7), alias(4, 8), alias(0, 400)}
	wantOf(t, "aliases of aliases", l, api.Table{
		Classes: []api.Class{words(api.Send, 2, to(0, 33)), end(1), words(api.Recv, 0, to(2, 33))},
		Of:      []int{0, 0, 1, 0, 1, 1, 0, 2, 2, 1, 2, 1, 1, 2},
		Prio:    []int{37, 35, 0, 5, 0, 0, 437, 37, 35, 0, 5, 0, 0, 437},
	})
	wantOf(t, "payloads by aliases", []api.Node{{}, alias(3, 4), ofEnd(api.Recv, 0, far(1, 6), far(4, 1)), of(api.Branch, 20, far(4, 8), far(1, 50)), alias(0, 3)}, api.Table{
		Classes: []api.Class{end(0), words(api.Branch, 3, to(0, 0), to(1, 54)), ends(api.Recv, 4, to(1, 30), to(0, 0)), words(api.Select, 1, to(0, 0), to(3, 54)), ends(api.Send, 2, to(1, 30), to(0, 0))},
		Of:      []int{0, 1, 2, 1, 0, 0, 3, 4, 3, 0},
		Prio:    []int{0, 24, 0, 20, 0, 0, 24, 0, 20, 0},
	})
	wantAlike(t, "an alias, and what it comes to", l, 0, 3, true)
	wantAlike(t, "an alias of an End, and one that acts", l, 3, 5, false)
}

// What an edge comes to over aliases counts, not over which ones.
func TestEdgesOverAliases(t *testing.T) {
	l := []api.Node{of(api.Send, 3, far(2, 4)), of(api.Send, 3, far(4, 1)), of(api.Recv, 6, far(5, 0)), alias(2, 2), alias(3, 1), {}}
	wantAlike(t, "one over aliases, one not", l, 0, 1, true)
	l[3].Next[0].Shift++
	wantAlike(t, "one rises further by its aliases", l, 0, 1, false)
	l[0].Next[0] = far(3, 2)
	wantAlike(t, "both over aliases", l, 0, 1, true)
}

func TestNodesAlikeTheDualOfAnother(t *testing.T) {
	wantOf(t, "a Select and a Branch", []api.Node{of(api.Select, 3, far(2, 0), far(2, 0)), of(api.Branch, 50, far(2, 0), far(2, 0)), {}}, api.Table{
		Classes: []api.Class{words(api.Select, 1, to(2, 0), to(2, 0)), words(api.Branch, 0, to(2, 0), to(2, 0)), end(2)},
		Of:      []int{0, 1, 2, 1, 0, 2},
		Prio:    []int{3, 50, 0, 3, 50, 0},
	})
	// What is handed over is no dual: both hand over the first one.
	wantOf(t, "endpoints", []api.Node{ofEnd(api.Send, 0, far(0, 3), far(2, 0)), ofEnd(api.Recv, 10, far(0, 13), far(2, 0)), {}}, api.Table{
		Classes: []api.Class{ends(api.Send, 1, to(0, 3), to(2, 0)), ends(api.Recv, 0, to(0, 3), to(2, 0)), end(2)},
		Of:      []int{0, 1, 2, 1, 0, 2},
		Prio:    []int{0, 10, 0, 0, 10, 0},
	})
	wantOf(t, "endpoints of themselves", []api.Node{ofEnd(api.Send, 0, far(0, 3), far(2, 0)), ofEnd(api.Recv, 10, far(1, 3), far(2, 0)), {}}, api.Table{
		Classes: []api.Class{ends(api.Send, 3, to(0, 3), to(2, 0)), ends(api.Recv, 4, to(1, 3), to(2, 0)), end(2), ends(api.Recv, 0, to(0, 3), to(2, 0)), ends(api.Send, 1, to(1, 3), to(2, 0))},
		Of:      []int{0, 1, 2, 3, 4, 2},
		Prio:    []int{0, 10, 0, 0, 10, 0},
	})
	wantClasses(t, "a dual that rises another way", []api.Node{of(api.Send, 0, far(0, 2)), of(api.Recv, 0, far(1, 3))}, 0, 1, 2, 3)
}

func TestInWhichOrderClassesAreNumbered(t *testing.T) {
	wantClasses(t, "by the first node of each", []api.Node{of(api.Recv, 0, far(2, 0)), of(api.Send, 0, far(2, 0)), {}, of(api.Recv, 9, far(2, 0)), of(api.Branch, 0, far(2, 0))}, 0, 1, 2, 0, 3, 1, 0, 2, 1, 4)
	wantClasses(t, "an alias ahead of what it comes to", []api.Node{alias(3, 0), {}, of(api.Send, 0, far(1, 0)), of(api.Select, 0, far(1, 0))}, 0, 1, 2, 0, 3, 1, 4, 3)
	wantClasses(t, "an alias of an End ahead of all", []api.Node{of(api.Send, 1, far(1, 0)), alias(3, 5), of(api.Send, 0, far(0, 0)), {}}, 0, 1, 2, 1, 3, 1, 4, 1)
	wantClasses(t, "the node of a payload behind it", []api.Node{ofEnd(api.Send, 0, far(2, 0), far(1, 0)), {}, of(api.Recv, 1, far(1, 0))}, 0, 1, 2, 3, 1, 4)
}

// P7.1, what a class tells

// talk is a table in which all kinds go on to each other, over aliases, too.
func talk() []api.Node {
	return []api.Node{
		of(api.Select, 1, far(1, 0), far(6, 2), far(5, 0)),
		ofEnd(api.Send, 2, far(3, 1), far(2, 5)),
		of(api.Recv, 3, far(0, 11)),
		ofEnd(api.Recv, 4, far(5, 9), far(4, 100)),
		of(api.Branch, 5, far(5, 0), far(3, 1000)),
		{},
		alias(3, 7),
		alias(5, 2),
	}
}

// talkTold is what there is to tell of it.
func talkTold() api.Table {
	return api.Table{
		Classes: []api.Class{
			words(api.Select, 6, to(1, 1), to(3, 12), to(5, 0)),
			ends(api.Send, 7, to(3, 3), to(2, 6)),
			words(api.Recv, 8, to(0, 9)),
			ends(api.Recv, 9, to(5, 0), to(4, 101)),
			words(api.Branch, 10, to(5, 0), to(3, 999)),
			end(5),
			words(api.Branch, 0, to(7, 1), to(9, 12), to(5, 0)),
			ends(api.Recv, 1, to(3, 3), to(8, 6)),
			words(api.Send, 2, to(6, 9)),
			ends(api.Send, 3, to(5, 0), to(10, 101)),
			words(api.Select, 4, to(5, 0), to(9, 999)),
		},
		Of:   []int{0, 1, 2, 3, 4, 5, 3, 5, 6, 7, 8, 9, 10, 5, 9, 5},
		Prio: []int{1, 2, 3, 4, 5, 0, 11, 0, 1, 2, 3, 4, 5, 0, 11, 0},
	}
}

func TestWhatClassesTell(t *testing.T) { wantOf(t, "a talk", talk(), talkTold()) }

// Fields that a kind does not have are zero, also where the class 0 is none of theirs.
func TestFieldsThatAKindDoesNotHave(t *testing.T) {
	x := made(t, "a talk", append([]api.Node{of(api.Send, 9, far(0, 9))}, moved(talk(), 1)...))
	for i, c := range x.Classes {
		isPay := c.IsChan && (c.Kind == api.Send || c.Kind == api.Recv)
		if !isPay && (c.IsChan || c.Pay != api.Link{}) {
			t.Errorf("the class %d has a payload: %v", i, c)
		}
		if c.Kind == api.End && (len(c.Next) != 0 || c.Dual != i) || c.Kind == api.Alias {
			t.Errorf("the class %d is %v", i, c)
		}
	}
}

// moved is a table each of whose edges goes so much further.
func moved(nodes []api.Node, by int) []api.Node {
	l := deep(nodes)
	for i := range l {
		if l[i].IsChan {
			l[i].Pay.To += by
		}
		for j := range l[i].Next {
			l[i].Next[j].To += by
		}
	}
	return l
}

func TestPrioritiesOfAllNodes(t *testing.T) {
	for _, prio := range []int{0, 1, 2, 500, 999, 1000} {
		for _, kind := range []int{api.Send, api.Recv, api.Select, api.Branch} {
			wantPrios(t, "a priority", []api.Node{{}, of(kind, prio, far(0, 3)), alias(1, 0), alias(2, 1000), alias(0, 5)}, 0, prio, prio, prio+1000, 0, 0, prio, prio, prio+1000, 0)
		}
	}
}

// P7.1, tables of MaxNodes nodes

func TestMaxNodesOneBehindTheOther(t *testing.T) {
	l := make([]api.Node, api.MaxNodes)
	for i := range 63 {
		l[i] = of(api.Send, i, far(i+1, 0))
	}
	x := made(t, "a way of MaxNodes nodes", l)
	if len(x.Classes) != 127 {
		t.Fatalf("%d classes", len(x.Classes))
	}
	for i := range 128 {
		number, prio := i, i%64
		if prio == 63 {
			number, prio = 63, 0
		}
		if x.Of[i] != number || x.Prio[i] != prio {
			t.Errorf("of %d the class %d and the priority %d", i, x.Of[i], x.Prio[i])
		}
	}
	wantAsPlain(t, l)
	wantError(t, "one more", append(l, api.Node{}), api.ErrLong)
}

func TestMaxNodesInARound(t *testing.T) {
	l := make([]api.Node, api.MaxNodes)
	for i := range l {
		l[i] = of(api.Recv, 0, far((i+1)%64, 9))
	}
	x := made(t, "a round of MaxNodes nodes", l)
	if len(x.Classes) != 2 || slices.Max(x.Of[:64]) != 0 || slices.Min(x.Of[64:]) != 1 {
		t.Errorf("the classes are %v", x)
	}
	l[63].Next[0].Shift++
	x = made(t, "a round of which one rises further", l)
	if len(x.Classes) != 128 || !slices.IsSorted(x.Of) {
		t.Errorf("the classes are %v", x)
	}
	wantAsPlain(t, l)
}

func TestMaxNodesOfAliases(t *testing.T) {
	l := make([]api.Node, api.MaxNodes)
	for i := range 63 {
		l[i] = alias(i+1, 1000)
	}
	l[63] = of(api.Send, 1000, far(0, 1000))
	x := made(t, "aliases", l)
	if !facts.SameTable(api.Table{Classes: x.Classes}, api.Table{Classes: []api.Class{words(api.Send, 1, to(0, 64000)), words(api.Recv, 0, to(1, 64000))}}) {
		t.Errorf("the classes are %v", x.Classes)
	}
	for i := range 128 {
		if x.Of[i] != i/64 || x.Prio[i] != 64000-1000*(i%64) {
			t.Errorf("of %d the class %d and the priority %d", i, x.Of[i], x.Prio[i])
		}
	}
}

func TestMaxNodesWithMaxLabels(t *testing.T) {
	l := make([]api.Node, api.MaxNodes)
	for i := range l {
		l[i] = of([]int{api.Select, api.Branch}[i%2], i, far((i+1)%64, 65), far(i, 66), far((i+2)%64, 67), far(i, 68), far(0, 69), far(63, 70), far(5, 71), far((i*i)%64, 72))
	}
	wantAsPlain(t, l)
}

// P7.2

func TestTypes(t *testing.T) {
	x := talkTold()
	for _, offset := range []int{0, 1, -1, 7, 1000, -1000, 1 << 40, math.MaxInt - 11, math.MinInt} {
		for i, number := range x.Of {
			prio := x.Prio[i] + offset
			if number == 5 {
				prio = 0
			}
			wantType(t, "a talk", x, at(i, offset), number, prio)
		}
	}
	wantType(t, "an alias", x, at(6, 20), 3, 31)
	wantType(t, "the dual of an alias", x, at(14, 20), 9, 31)
	wantType(t, "an alias of an End", x, at(7, 20), 5, 0)
	// Sums that do not fit are taken by their lowest 64 bits.
	wantType(t, "the greatest Offset", x, at(1, math.MaxInt), 1, math.MinInt+1)
}

func TestTypesOfNoNode(t *testing.T) {
	for n := range 3 {
		nodes := make([]api.Node, n+1)
		nodes[n] = of(api.Send, 3, far(n, 3))
		x := made(t, "a table", nodes)
		for _, odd := range append(oddNumbers(), 2*n+2, 2*n+3, 3*n+3, 64, 127, 128) {
			for _, offset := range []int{0, 5, -5} {
				wantType(t, "no node", x, at(odd, offset), -1, 0)
			}
		}
		wantType(t, "the last node", x, at(2*n+1, 4), x.Of[2*n+1], 7)
	}
	wantType(t, "no table", api.Table{}, at(0, 0), -1, 0)
}

// P7.3

func TestNext(t *testing.T) {
	x := talkTold()
	for number, c := range x.Classes {
		for i, link := range c.Next {
			for _, prio := range []int{0, 1, -1, 12, 1000, 1 << 40, -5000} {
				rises := prio + link.Jump
				if link.Class == 5 {
					rises = 0
				}
				wantNext(t, "a talk", x, number, prio, i, link.Class, rises)
			}
		}
	}
	wantNext(t, "a Select", x, 0, 10, 0, 1, 11)
	wantNext(t, "a Select, over an alias", x, 0, 10, 1, 3, 22)
	wantNext(t, "a Select, to an End", x, 0, 10, 2, 5, 0)
	wantNext(t, "a Send of an endpoint", x, 1, 10, 0, 2, 16)
	wantNext(t, "its dual", x, 7, 10, 0, 8, 16)
	wantNext(t, "the last of a Branch", x, 4, 10, 1, 3, 1009)
	wantNext(t, "a sum that does not fit", x, 2, math.MaxInt, 0, 0, math.MinInt+8)
}

func TestNoNext(t *testing.T) {
	x := talkTold()
	for number, c := range x.Classes {
		for _, i := range append(oddNumbers(), len(c.Next), len(c.Next)+1, 8) {
			wantNext(t, "no Next", x, number, 7, i, -1, 0)
		}
	}
	for _, i := range append(oddNumbers(), 0, 1, 8) {
		wantNext(t, "the Next of an End", x, 5, 7, i, -1, 0)
		for _, odd := range append(oddNumbers(), 11, 12, 64, 128) {
			wantNext(t, "no class", x, odd, 7, i, -1, 0)
		}
		wantNext(t, "no table", api.Table{}, 0, 7, i, -1, 0)
	}
}

func TestPay(t *testing.T) {
	x := talkTold()
	for _, prio := range []int{0, 1, -1, 12, 1000, 1 << 40, -5000} {
		for _, number := range []int{1, 7} {
			wantPay(t, "an endpoint", x, number, prio, 3, prio+3)
		}
		for _, number := range []int{3, 9} {
			wantPay(t, "an End", x, number, prio, 5, 0)
		}
		for _, number := range []int{0, 2, 4, 5, 6, 8, 10} {
			wantPay(t, "no endpoint", x, number, prio, -1, 0)
		}
		for _, odd := range append(oddNumbers(), 11, 12, 64, 128) {
			wantPay(t, "no class", x, odd, prio, -1, 0)
		}
		wantPay(t, "no table", api.Table{}, 0, prio, -1, 0)
	}
	wantPay(t, "a sum that does not fit", x, 1, math.MaxInt, 3, math.MinInt+2)
}

// R7: tables that the layer did not make are answered, too.
func TestTablesThatWereNotMadeHere(t *testing.T) {
	odd := append(oddNumbers(), 0, 1, 2, 3)
	for _, n := range odd {
		link := api.Link{Class: n, Jump: n}
		for _, x := range []api.Table{
			{Of: []int{n, n}},
			{Prio: []int{n, n}},
			{Of: []int{n, n, n}, Prio: []int{n}},
			{Of: []int{n}, Prio: []int{n, n, n}},
			{Of: []int{n, 0}, Prio: []int{n, n}, Classes: []api.Class{{Kind: n, Dual: n, IsChan: true, Pay: link, Next: []api.Link{link, {}}}}},
			{Classes: []api.Class{{Kind: api.Select, IsChan: true, Next: []api.Link{link}}, {Pay: link}, {IsChan: true, Pay: link}}},
		} {
			was := facts.RoomyTable(x)
			for _, a := range odd {
				for _, b := range odd {
					for range 2 {
						class.Type(x, at(a, b))
						class.Next(x, a, n, b)
						class.Pay(x, a, b)
					}
				}
			}
			if !facts.SameTable(x, was) {
				t.Errorf("what was handed in is changed: %v", was)
			}
		}
	}
}

// R5

func TestRoomBehindWhatIsHandedInStays(t *testing.T) {
	l := tables.Roomy(talk())
	wantOf(t, "a talk with room", l, talkTold())
	if !tables.IsRoomEmpty(l) {
		t.Errorf("something stands behind what was handed in: %v", l)
	}
}

func TestWhatIsAnsweredIsNew(t *testing.T) {
	l := talk()
	first, second := made(t, "a talk", l), made(t, "a talk", l)
	for i := range first.Classes {
		for j := range first.Classes[i].Next {
			first.Classes[i].Next[j] = to(77, 77)
		}
		first.Classes[i] = api.Class{Kind: 77}
	}
	for i := range first.Of {
		first.Of[i], first.Prio[i] = 77, 78
	}
	if !facts.SameTable(second, talkTold()) || !same(l, talk()) {
		t.Error("an answer shares with another one, or with what was handed in")
	}
	wantOf(t, "a talk again", l, talkTold())
	for i := range l {
		for j := range l[i].Next {
			l[i].Next[j] = far(0, 5)
		}
		l[i] = api.Node{}
	}
	if !facts.SameTable(second, talkTold()) {
		t.Error("what was handed in shares with what is answered")
	}
}

// Each list of an answer is written to, also behind its end; no other one may change.
func TestNoTwoListsOfAnAnswerShare(t *testing.T) {
	for i := range len(talkTold().Classes) + 2 {
		x, want := made(t, "a talk", talk()), talkTold()
		switch i {
		case 0:
			spoilt := append(x.Of, 77, 78)
			for j := range spoilt {
				spoilt[j] = 79
			}
			x.Of = want.Of
		case 1:
			spoilt := append(x.Prio, 77, 78)
			for j := range spoilt {
				spoilt[j] = 79
			}
			x.Prio = want.Prio
		default:
			c := &x.Classes[i-2]
			for j := range c.Next {
				c.Next[j] = to(77, 77)
			}
			_ = append(c.Next, to(78, 78), to(79, 79))
			c.Next = want.Classes[i-2].Next
		}
		if !facts.SameTable(x, want) {
			t.Errorf("the list %d is another one's, too", i)
		}
	}
}

// P7.1 to P7.4 against a plain reading of the chapter

// plainGoal is the node that a node comes to, and its priority with the shifts on the way; 0 of an End.
func plainGoal(two []api.Node, node int) (goal, prio int) {
	for two[node].Kind == api.Alias {
		prio += two[node].Next[0].Shift
		node = two[node].Next[0].To
	}
	if two[node].Kind == api.End {
		return node, 0
	}
	return node, prio + two[node].Prio
}

// plainLink is what an edge of a node that acts comes to, and how far it rises; 0, if that is an End.
func plainLink(two []api.Node, node int, e api.Edge) (goal, rise int) {
	goal, prio := plainGoal(two, e.To)
	if two[goal].Kind == api.End {
		return goal, 0
	}
	return goal, prio + e.Shift - two[node].Prio
}

// plainEdges are a node's Next, and its payload, if it is an endpoint.
func plainEdges(n api.Node) []api.Edge {
	l := slices.Clone(n.Next)
	if n.IsChan {
		l = append(l, n.Pay)
	}
	return l
}

// plainDiffers tells whether two nodes that are no aliases differ in themselves, or in how far one of their edges rises.
func plainDiffers(two []api.Node, a, b int) bool {
	m, n := two[a], two[b]
	if m.Kind != n.Kind || m.IsChan != n.IsChan || len(m.Next) != len(n.Next) {
		return true
	}
	for i, e := range plainEdges(m) {
		x, up := plainLink(two, a, e)
		y, high := plainLink(two, b, plainEdges(n)[i])
		if up != high || (two[x].Kind == api.End) != (two[y].Kind == api.End) {
			return true
		}
	}
	return false
}

// plainAlike is the greatest relation of which the chapter's words hold: out of all pairs those are taken that differ, and those that go on to pairs that were taken, till no more are.
func plainAlike(two []api.Node) [][]bool {
	alike := make([][]bool, len(two))
	for a := range two {
		alike[a] = make([]bool, len(two))
		for b := range two {
			x, _ := plainGoal(two, a)
			y, _ := plainGoal(two, b)
			alike[a][b] = !plainDiffers(two, x, y)
		}
	}
	for again := true; again; {
		again = false
		for a := range two {
			for b := range two {
				if alike[a][b] && !plainGoesOnAlike(two, alike, a, b) {
					alike[a][b], again = false, true
				}
			}
		}
	}
	return alike
}

// plainGoesOnAlike tells whether the edges of two nodes that do not differ come to nodes that are alike so far.
func plainGoesOnAlike(two []api.Node, alike [][]bool, a, b int) bool {
	x, _ := plainGoal(two, a)
	y, _ := plainGoal(two, b)
	others := plainEdges(two[y])
	for i, e := range plainEdges(two[x]) {
		if !alike[e.To][others[i].To] {
			return false
		}
	}
	return true
}

// plainOf is Of of a table with which all is well, word by word.
func plainOf(nodes []api.Node) api.Table {
	two := dual.Table(nodes)
	alike := plainAlike(two)
	var x api.Table
	var firsts []int // the node with which each class comes first
	for i := range two {
		number := slices.IndexFunc(firsts, func(first int) bool { return alike[first][i] })
		if number < 0 {
			number = len(firsts)
			firsts = append(firsts, i)
		}
		_, prio := plainGoal(two, i)
		x.Of, x.Prio = append(x.Of, number), append(x.Prio, prio)
	}
	for _, first := range firsts {
		node, _ := plainGoal(two, first)
		n := two[node]
		c := api.Class{Kind: n.Kind, IsChan: n.IsChan, Dual: x.Of[(node+len(nodes))%len(two)]}
		if n.IsChan {
			_, rise := plainLink(two, node, n.Pay)
			c.Pay = to(x.Of[n.Pay.To], rise)
		}
		for _, e := range n.Next {
			_, rise := plainLink(two, node, e)
			c.Next = append(c.Next, to(x.Of[e.To], rise))
		}
		x.Classes = append(x.Classes, c)
	}
	return x
}

// wantAsPlain holds Of of nodes against the plain reading, and, if all is well with them, against what follows. It answers order.Check's error, and how many classes there are.
func wantAsPlain(t *testing.T, nodes []api.Node) (api.Errno, int) {
	t.Helper()
	_, e := order.Check(nodes)
	if e != api.OK {
		wantError(t, "a table that may not be", nodes, e)
		return e, 0
	}
	x := plainOf(nodes)
	wantOf(t, "a table that may be", nodes, x)
	if !t.Failed() {
		wantWhatFollows(t, nodes, x)
	}
	if t.Failed() {
		t.Fatalf("of the table %v", nodes)
	}
	return e, len(x.Classes)
}

// wantWhatFollows asks for P7.4 of a table that may be, and whether Type, Next and Pay go as its nodes do.
func wantWhatFollows(t *testing.T, nodes []api.Node, x api.Table) {
	t.Helper()
	two := dual.Table(nodes)
	for i := range two {
		wantAsNodesGo(t, two, x, at(i, 3*i-4))
		for j := range two {
			if len(nodes) > 6 && i != 0 {
				continue // a way is looked for from each pair in small tables alone
			}
			if waysTellApart(two, i, j) != (x.Of[i] != x.Of[j]) {
				t.Errorf("%d and %d are of %d and %d, but do ways tell them apart? %v", i, j, x.Of[i], x.Of[j], waysTellApart(two, i, j))
			}
		}
	}
	for number, c := range x.Classes {
		d := x.Classes[c.Dual]
		if d.Dual != number || d.IsChan != c.IsChan || d.Pay != c.Pay || len(d.Next) != len(c.Next) {
			t.Errorf("the class %d is %v, its dual %v", number, c, d)
			continue
		}
		for i, link := range c.Next {
			if d.Next[i] != to(x.Classes[link.Class].Dual, link.Jump) {
				t.Errorf("the class %d is %v, its dual %v", number, c, d)
			}
		}
	}
}

// wantAsNodesGo asks whether Next and Pay of a type's class and priority are the class and priority of what its node goes on to, and hands over.
func wantAsNodesGo(t *testing.T, two []api.Node, x api.Table, y api.Type) {
	t.Helper()
	number, prio := class.Type(x, y)
	goal := graph.Resolve(two, y)
	n := two[goal.Node]
	if n.Kind != api.End && prio != n.Prio+goal.Offset || n.Kind == api.End && prio != 0 {
		t.Errorf("Type of %v: %d, %d, but it comes to %v at %v", y, number, prio, n, goal)
	}
	for i, e := range n.Next {
		c, p := class.Type(x, at(e.To, goal.Offset+e.Shift))
		wantNext(t, "as nodes go", x, number, prio, i, c, p)
	}
	wantNext(t, "as nodes go", x, number, prio, len(n.Next), -1, 0)
	c, p := -1, 0
	if n.IsChan {
		c, p = class.Type(x, at(n.Pay.To, goal.Offset+n.Pay.Shift))
	}
	wantPay(t, "as nodes go", x, number, prio, c, p)
}

// waysTellApart looks for a way along Next and payloads, from two nodes on, to two that differ.
func waysTellApart(two []api.Node, a, b int) bool {
	met := map[[2]int]bool{}
	ways := [][2]int{{a, b}}
	for len(ways) > 0 {
		x, _ := plainGoal(two, ways[0][0])
		y, _ := plainGoal(two, ways[0][1])
		ways = ways[1:]
		if met[[2]int{x, y}] {
			continue
		}
		met[[2]int{x, y}] = true
		if plainDiffers(two, x, y) {
			return true
		}
		others := plainEdges(two[y])
		for i, e := range plainEdges(two[x]) {
			ways = append(ways, [2]int{e.To, others[i].To})
		}
	}
	return false
}

// All tables of up to three nodes, of some that count: nodes of one kind, of which one is 1 above the other, beside others.
func TestAllSmallTables(t *testing.T) {
	found := map[api.Errno]int{}
	few := 0
	for n := 1; n <= 3; n++ {
		pool := []api.Node{{}, {Prio: 1}}
		for goal := range n {
			pool = append(pool, alias(goal, 1), of(api.Send, 0, far(goal, 2)), of(api.Recv, 0, far(goal, 2)), of(api.Send, 1, far(goal, 2)), of(api.Recv, 1, far(goal, 1)),
				ofEnd(api.Send, 0, far(goal, 2), far(0, 2)), ofEnd(api.Recv, 1, far(0, 3), far(goal, 3)), of(api.Branch, 1, far(goal, 2), far(n-1, 3)))
		}
		pool = append(pool, of(api.Send, 0, far(n, 1)))
		for l := range tables.All(n, pool) {
			e, count := wantAsPlain(t, l)
			found[e]++
			if 1 < count && count <= n {
				few++
			}
		}
	}
	for _, e := range []api.Errno{api.OK, api.ErrKind, api.ErrOpen, api.ErrAlias, api.ErrOrder} {
		if found[e] < 10 {
			t.Errorf("just %d tables have the error %d", found[e], e)
		}
	}
	if found[api.OK] < 1000 || few < 500 {
		t.Errorf("by their errors: %v; with few classes: %d", found, few)
	}
}

func TestMixedTables(t *testing.T) {
	r := tables.Row(7)
	found := map[api.Errno]int{}
	for round := range 2000 {
		n := 1 + r.Below(8)
		if round%100 == 0 {
			n = 58 + r.Below(10)
		}
		prios := 1 + r.Below(30)
		l := tables.Mixed(&r, n, prios, max(0, prios-r.Below(2)*r.Below(2*n)))
		if r.Below(10) == 0 {
			l[r.Below(n)] = of(r.Below(7), 0, far(r.Below(n+1), 0))
		}
		e, _ := wantAsPlain(t, l)
		found[e]++
	}
	for _, e := range []api.Errno{api.OK, api.ErrLong, api.ErrKind, api.ErrOpen, api.ErrOrder} {
		if found[e] < 2 {
			t.Errorf("just %d tables have the error %d", found[e], e)
		}
	}
	if found[api.OK] < 500 {
		t.Errorf("by their errors: %v", found)
	}
}

func TestCopiesAreAlike(t *testing.T) {
	r := tables.Row(8)
	parted := 0
	for range 300 {
		n, count := 1+r.Below(7), 1+r.Below(5)
		base := tables.Mixed(&r, n, 30, 330)
		l, above := tables.Copies(&r, base, count)
		wantAsPlain(t, l)
		one, x := made(t, "a table", base), made(t, "its copies", l)
		if len(x.Classes) != len(one.Classes) {
			t.Fatalf("%d classes, but of one copy %d: %v, %v", len(x.Classes), len(one.Classes), base, l)
		}
		for i, number := range one.Of {
			for c := range count {
				node := (i/n)*len(l) + c*n + i%n
				prio := one.Prio[i] + above[c]
				if one.Classes[number].Kind == api.End {
					prio = 0
				}
				if x.Of[node] != number || x.Prio[node] != prio {
					t.Fatalf("the copy %d of %d has the class %d and the priority %d, but %d and %d are asked for: %v", c, i, x.Of[node], x.Prio[node], number, prio, l)
				}
			}
		}
		if i := r.Below(len(l)); len(l[i].Next) > 0 && l[i].Kind != api.Alias {
			l[i].Next[r.Below(len(l[i].Next))].Shift++
			if _, more := wantAsPlain(t, l); more > len(one.Classes) {
				parted++
			}
		}
	}
	if parted < 30 {
		t.Errorf("just %d tables have more classes if one edge rises further", parted)
	}
}
