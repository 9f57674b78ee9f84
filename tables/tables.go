// Package tables helps the tests of all layers to lay tables of types.
package tables

import (
	"iter"
	"math"
	"slices"

	"colloquy/api"
)

// Far is the edge to a node with a shift.
func Far(node, shift int) api.Edge { return api.Edge{To: node, Shift: shift} }

// Of is a node of a kind and a priority, with edges along which it goes on.
func Of(kind, prio int, next ...api.Edge) api.Node {
	return api.Node{Kind: kind, Prio: prio, Next: slices.Clone(next)}
}

// OfEnd is a Send or a Recv of an endpoint.
func OfEnd(kind, prio int, pay, next api.Edge) api.Node {
	return api.Node{Kind: kind, Prio: prio, IsChan: true, Pay: pay, Next: []api.Edge{next}}
}

// Alias is an Alias of a node, with a shift.
func Alias(node, shift int) api.Node { return Of(api.Alias, 0, Far(node, shift)) }

// Deep is a copy of a table that shares nothing with it.
func Deep(nodes []api.Node) []api.Node {
	l := slices.Clone(nodes)
	for i := range l {
		l[i].Next = slices.Clone(l[i].Next)
	}
	return l
}

// Roomy is a copy of a table with room behind it, and behind each of its lists.
func Roomy(nodes []api.Node) []api.Node {
	l := append(make([]api.Node, 0, len(nodes)+8), nodes...)
	for i := range l {
		l[i].Next = append(make([]api.Edge, 0, len(l[i].Next)+8), l[i].Next...)
	}
	return l
}

// IsRoomEmpty tells whether nothing was laid in the room behind a table, and behind its lists.
func IsRoomEmpty(nodes []api.Node) bool {
	behind := nodes[len(nodes):cap(nodes)]
	if !Same(behind, make([]api.Node, len(behind))) {
		return false
	}
	for _, n := range nodes {
		for _, e := range n.Next[len(n.Next):cap(n.Next)] {
			if e != (api.Edge{}) {
				return false
			}
		}
	}
	return true
}

// Same tells whether two tables are the same; lists that are nil are like those without elements.
func Same(a, b []api.Node) bool {
	return slices.EqualFunc(a, b, func(m, n api.Node) bool {
		return m.Kind == n.Kind && m.Prio == n.Prio && m.IsChan == n.IsChan && m.Pay == n.Pay && slices.Equal(m.Next, n.Next)
	})
}

// All tells all tables of n nodes, each of which is one of the pool.
func All(n int, pool []api.Node) iter.Seq[[]api.Node] {
	return func(yield func([]api.Node) bool) {
		l := make([]api.Node, n)
		var lay func(place int) bool
		lay = func(place int) bool {
			if place == n {
				return yield(Deep(l))
			}
			for _, node := range pool {
				l[place] = node
				if !lay(place + 1) {
					return false
				}
			}
			return true
		}
		lay(0)
	}
}

// OddNumbers are none of a node of any table, nor any that its fields may have.
func OddNumbers() []int {
	return []int{-1, -2, -64, math.MinInt32, math.MinInt + 1, math.MinInt, math.MaxInt32, math.MaxInt32 + 1, 1 << 32, math.MaxInt - 1, math.MaxInt}
}

// Row is a row of numbers, always the same one.
type Row uint64

// Below is the row's next number, from 0 on, below n.
func (r *Row) Below(n int) int {
	*r = *r*6364136223846793005 + 1442695040888963407
	return int(uint64(*r) >> 33 % uint64(n))
}

// Any is any number, most often a small one.
func Any(r *Row) int {
	if r.Below(12) > 0 {
		return r.Below(9) - 1
	}
	odd := OddNumbers()
	return odd[r.Below(len(odd))]
}

// Mixed is a table of n nodes of all kinds, whose shifts are from least on, and whose priorities are below prios. Aliases go to the nodes ahead of them.
func Mixed(r *Row, n, prios, least int) []api.Node {
	l := make([]api.Node, n)
	edge := func() api.Edge { return Far(r.Below(n), least+r.Below(20)) }
	for i := range l {
		switch kind := r.Below(12) % 7; kind {
		case api.Send, api.Recv:
			l[i] = Of(kind, r.Below(prios), edge())
			if l[i].IsChan = r.Below(2) == 0; l[i].IsChan {
				l[i].Pay = edge()
			}
		case api.Select, api.Branch:
			l[i] = Of(kind, r.Below(prios))
			for range 1 + r.Below(8) {
				l[i].Next = append(l[i].Next, edge())
			}
		case api.Alias:
			if i > 0 {
				l[i] = Alias(r.Below(i), r.Below(9))
			}
		}
	}
	return l
}

// Copies is a table that holds another one so many times, each time higher: where an edge of a copy goes on, it goes to any of them, but rises as far. It answers, too, by how much each copy is higher.
func Copies(r *Row, base []api.Node, count int) (nodes []api.Node, above []int) {
	for range count {
		above = append(above, r.Below(300))
	}
	n := len(base)
	for c := range count {
		other := func(e api.Edge) api.Edge {
			goal := r.Below(count)
			return Far(goal*n+e.To, e.Shift+above[c]-above[goal])
		}
		for _, node := range Deep(base) {
			switch node.Kind {
			case api.End:
			case api.Alias: // its shift is too small to go elsewhere
				node.Next[0].To += c * n
			default:
				node.Prio += above[c]
				if node.IsChan {
					node.Pay = other(node.Pay)
				}
				for i, e := range node.Next {
					node.Next[i] = other(e)
				}
			}
			nodes = append(nodes, node)
		}
	}
	return nodes, above
}
