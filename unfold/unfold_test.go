package unfold_test

import (
	"math"
	"strconv"
	"strings"
	"testing"

	"colloquy/api"
	"colloquy/class"
	"colloquy/dual"
	"colloquy/graph"
	"colloquy/tables"
	"colloquy/unfold"
)

// How tables are laid, and held against each other.
var (
	far, of, ofEnd, alias  = tables.Far, tables.Of, tables.OfEnd, tables.Alias
	deep, same, oddNumbers = tables.Deep, tables.Same, tables.OddNumbers
)

// at is the type of a node at an Offset.
func at(node, offset int) api.Type { return api.Type{Node: node, Offset: offset} }

func wantText(t *testing.T, what string, nodes []api.Node, x api.Type, depth int, want string) {
	t.Helper()
	was := deep(nodes)
	for range 2 {
		if got := unfold.Text(nodes, x, depth); got != want {
			t.Errorf("%s: Text of %v to %d: %q, but %q is asked for", what, x, depth, got, want)
		}
	}
	if !same(nodes, was) {
		t.Errorf("%s: what was handed in is changed", what)
	}
}

// wantEqual asks for the same of two types and of the two the other way round.
func wantEqual(t *testing.T, what string, nodes []api.Node, a, b api.Type, depth int, are bool) {
	t.Helper()
	was := deep(nodes)
	for range 2 {
		if got := unfold.Equal(nodes, a, b, depth); got != are {
			t.Errorf("%s: Equal of %v and %v to %d: %v", what, a, b, depth, got)
		}
		if got := unfold.Equal(nodes, b, a, depth); got != are {
			t.Errorf("%s: Equal of %v and %v to %d: %v", what, b, a, depth, got)
		}
	}
	if !same(nodes, was) {
		t.Errorf("%s: what was handed in is changed", what)
	}
}

// wantEqualTo asks for two types that are equal to a depth and to each lesser one, and to no greater one.
func wantEqualTo(t *testing.T, what string, nodes []api.Node, a, b api.Type, deepest int) {
	t.Helper()
	for _, depth := range []int{math.MinInt, -1, 0, deepest - 1, deepest} {
		wantEqual(t, what, nodes, a, b, depth, true)
	}
	for _, depth := range append(beyond(), deepest+1, deepest+2, deepest+100) {
		wantEqual(t, what, nodes, a, b, depth, false)
	}
}

// wantSame asks for two types that are equal to each depth.
func wantSame(t *testing.T, what string, nodes []api.Node, a, b api.Type) {
	t.Helper()
	for _, depth := range append(beyond(), math.MinInt, -1, 0, 1, 2, 3, 9, 100) {
		wantEqual(t, what, nodes, a, b, depth, true)
	}
}

// beyond are the greatest depth that counts, and some that are about it, or above it.
func beyond() []int {
	return []int{255, 256, 257, 1000, math.MaxInt32, 1 << 32, math.MaxInt - 1, math.MaxInt}
}

// actingKinds are the kinds that act.
func actingKinds() []int { return []int{api.Send, api.Recv, api.Select, api.Branch} }

// noKinds are none of the kinds.
func noKinds() []int { return append(oddNumbers(), api.LastKind+1, 7, 100) }

// The chapter's examples

func TestExamples(t *testing.T) {
	l := []api.Node{of(api.Send, 3, far(1, 2)), ofEnd(api.Recv, 0, far(2, 0), far(0, 0)), {}}
	wantText(t, "a Send", l, at(0, 10), 2, "!13(w)[?12(0)[.]]")
	wantText(t, "an End", l, at(2, 0), 3, "0")
	wantText(t, "a Send to the depth 0", l, at(0, 0), 0, ".")
	wantText(t, "no node", l, at(5, 0), 1, "?")
	l = []api.Node{of(api.Send, 1, far(0, 4)), of(api.Send, 1, far(1, 4))}
	wantEqual(t, "two rounds", l, at(0, 0), at(1, 0), 9, true)
	wantEqual(t, "two rounds with two Offsets", l, at(0, 0), at(1, 1), 9, false)
}

// P8.1

func TestEachKindAndItsSign(t *testing.T) {
	for i, kind := range actingKinds() {
		pay := []string{"w", "w", "", ""}[i]
		l := []api.Node{of(kind, 7, far(1, 0)), {}}
		wantText(t, "a kind that acts", l, at(0, 0), 1, []string{"!", "?", "+", "&"}[i]+"7("+pay+")[0]")
		wantText(t, "its dual", dual.Table(l), at(2, 0), 1, []string{"?", "!", "&", "+"}[i]+"7("+pay+")[0]")
	}
	wantText(t, "an End", []api.Node{{}}, at(0, 5), 1, "0")
	wantText(t, "an Alias", []api.Node{{}, alias(0, 1)}, at(1, 5), 1, "0")
}

func TestPayloads(t *testing.T) {
	l := []api.Node{{}, ofEnd(api.Send, 1, far(2, 30), far(3, 4)), of(api.Recv, 2, far(0, 0)), ofEnd(api.Recv, 3, far(1, 500), far(0, 0)), ofEnd(api.Send, 4, far(0, 9), far(0, 8))}
	wantText(t, "an endpoint that acts", l, at(1, 100), 2, "!101(?132(w)[0])[?107(.)[0]]")
	wantText(t, "an endpoint to the depth 1", l, at(1, 100), 1, "!101(.)[.]")
	wantText(t, "endpoints of endpoints", l, at(3, 0), 3, "?3(!501(?532(w)[0])[?507(.)[0]])[0]")
	wantText(t, "an End as the endpoint", l, at(4, 6), 1, "!10(0)[0]")
	l[4].IsChan, l[4].Pay = false, api.Edge{}
	wantText(t, "a word", l, at(4, 6), 1, "!10(w)[0]")
}

func TestHowManyNext(t *testing.T) {
	for i, kind := range []int{api.Select, api.Branch} {
		sign := []string{"+", "&"}[i]
		wantText(t, "one", []api.Node{of(kind, 1, far(0, 3))}, at(0, 0), 2, sign+"1()["+sign+"4()[.]]")
		wantText(t, "three", []api.Node{of(kind, 1, far(1, 3), far(0, 1), far(2, 5)), {}, of(api.Send, 9, far(1, 0))}, at(0, 0), 2,
			sign+"1()[0,"+sign+"2()[0,.,.],!14(w)[0]]")
		wantText(t, "two of one node", []api.Node{of(kind, 1, far(0, 3), far(0, 6))}, at(0, 0), 2, sign+"1()["+sign+"4()[.,.],"+sign+"7()[.,.]]")
	}
	for count := 1; count <= api.MaxLabels; count++ {
		l := []api.Node{of(api.Select, 5)}
		var told []string
		for i := range count {
			l[0].Next = append(l[0].Next, far(1+i, 10*i))
			l = append(l, of(api.Recv, i, far(0, 0)))
			told = append(told, "?"+strconv.Itoa(11*i+2)+"(w)[.]")
		}
		wantText(t, "Next of several nodes", l, at(0, 2), 2, "+7()["+strings.Join(told, ",")+"]")
	}
}

func TestAliasesOnTheWay(t *testing.T) {
	l := []api.Node{alias(1, 5), alias(2, 40), ofEnd(api.Send, 3, far(4, 7), far(0, 1)), {}, alias(5, 600), of(api.Recv, 2, far(6, 9)), alias(3, 1)}
	wantText(t, "one alias", l, at(1, 0), 0, ".")
	wantText(t, "one alias", l, at(1, 0), 1, "!43(.)[.]")
	wantText(t, "an alias of an alias", l, at(0, 1000), 1, "!1048(.)[.]")
	wantText(t, "aliases of the payload and of the Next", l, at(2, 0), 2, "!3(?609(w)[0])[!49(.)[.]]")
	wantText(t, "aliases all the way", l, at(0, 0), 3, "!48(?654(w)[0])[!94(?700(w)[0])[!140(.)[.]]]")
	wantText(t, "an alias of an End", l, at(6, 3), 0, "0")
}

// lost is a list of one Send, and of what comes to none from 1 on.
func lost() []api.Node {
	return []api.Node{
		of(api.Send, 2, far(1, 1)),
		alias(1, 1),
		alias(3, 1),
		alias(2, 0),
		alias(-1, 0),
		alias(99, 0),
		alias(math.MaxInt, 3),
		{Kind: api.Alias},
		of(api.Alias, 0, far(0, 0), far(0, 0)),
		alias(7, 4),
		alias(8, 4),
	}
}

func TestWhatComesToNone(t *testing.T) {
	for _, depth := range []int{-1, 0, 1, 2, 5, 6} {
		for i := 1; i < len(lost()); i++ {
			wantText(t, "an alias that comes to none", lost(), at(i, 3), depth, "?")
		}
		for _, none := range append(oddNumbers(), 11, 12, 99, 127, 128) {
			wantText(t, "no node", lost(), at(none, 3), depth, "?")
		}
	}
	for i := 1; i <= 20; i++ {
		l := lost()
		l[0].Next[0].To = i
		wantText(t, "a Next that comes to none", l, at(0, 0), 1, "!2(w)[?]")
		wantText(t, "a payload and a Next that come to none", append(l, ofEnd(api.Recv, 4, far(-i, 0), far(-1, 1))), at(11, 0), 1, "?4(?)[?]")
	}
}

func TestEndsAndKindsThatAreNone(t *testing.T) {
	for _, depth := range []int{math.MinInt, -1, 0, 1, 5, 6, math.MaxInt} {
		for _, kind := range append(noKinds(), api.End) {
			l := []api.Node{
				{Kind: kind},
				{Kind: kind, Prio: 7, IsChan: true, Pay: far(0, 3), Next: []api.Edge{far(1, 1), far(0, 0)}},
				alias(1, 4),
			}
			for i := range l {
				wantText(t, "what does not act", l, at(i, 9), depth, "0")
			}
		}
	}
	for _, kind := range append(noKinds(), api.End) {
		wantText(t, "parts that do not act", []api.Node{{Kind: kind}, ofEnd(api.Send, 1, far(0, 0), far(0, 0))}, at(1, 0), 1, "!1(0)[0]")
	}
}

func TestPrioritiesAsDigits(t *testing.T) {
	for _, kind := range actingKinds() {
		for _, prio := range []int{0, 1, 9, 10, 999, 1000, -1, -10, math.MaxInt, math.MinInt, math.MinInt + 1, 1 << 32} {
			for _, offset := range []int{0, 1, -1, 12, -1000, math.MaxInt, math.MinInt} {
				l := []api.Node{of(kind, prio, far(1, 0)), {}}
				asked := strconv.Itoa(prio + offset)
				if got := unfold.Text(l, at(0, offset), 1); !strings.HasPrefix(got[1:], asked+"(") {
					t.Errorf("%d at the Offset %d: %q", prio, offset, got)
				}
			}
		}
	}
	l := []api.Node{of(api.Send, 3, far(0, 1)), of(api.Branch, math.MaxInt, far(2, 1)), alias(0, math.MaxInt)}
	wantText(t, "below 0", l, at(0, -5), 2, "!-2(w)[!-1(w)[.]]")
	wantText(t, "the least Offset", l, at(0, math.MinInt), 1, "!-9223372036854775805(w)[.]")
	wantText(t, "the least number", l, at(0, math.MaxInt-2), 1, "!-9223372036854775808(w)[.]")
	wantText(t, "sums that do not fit", l, at(1, 1), 3, "&-9223372036854775808()[!-9223372036854775804(w)[!-9223372036854775803(w)[.]]]")
}

func TestEachDepth(t *testing.T) {
	round := []api.Node{of(api.Send, 0, far(1, 0)), of(api.Recv, 1, far(0, 2))}
	texts := []string{
		".",
		"!0(w)[.]",
		"!0(w)[?1(w)[.]]",
		"!0(w)[?1(w)[!2(w)[.]]]",
		"!0(w)[?1(w)[!2(w)[?3(w)[.]]]]",
		"!0(w)[?1(w)[!2(w)[?3(w)[!4(w)[.]]]]]",
	}
	for depth, want := range texts {
		wantText(t, "a round", round, at(0, 0), depth, want)
	}
	for _, depth := range []int{-1, -2, -5, -6, -100, math.MinInt32, math.MinInt + 1, math.MinInt} {
		wantText(t, "a depth below 0", round, at(0, 0), depth, texts[0])
	}
	for _, depth := range []int{6, 7, 10, 100, 256, 257, math.MaxInt32, 1 << 32, math.MaxInt} {
		wantText(t, "a depth above 5", round, at(0, 0), depth, texts[5])
	}
	// What does not act, or comes to none, is told also where the depth ends.
	l := []api.Node{of(api.Branch, 1, far(0, 1), far(1, 0), far(5, 0)), {}}
	wantText(t, "a Branch", l, at(0, 0), 0, ".")
	wantText(t, "a Branch", l, at(0, 0), 1, "&1()[.,0,?]")
	wantText(t, "a Branch", l, at(0, 0), 2, "&1()[&2()[.,0,?],0,?]")
	wantText(t, "a way that ends ahead of the depth", []api.Node{of(api.Send, 0, far(1, 0)), of(api.Recv, 1, far(2, 0)), {}}, at(0, 0), 5, "!0(w)[?1(w)[0]]")
}

// What stands there counts, also where it may not be.
func TestTextsOfListsWithoutTheirShape(t *testing.T) {
	for i, kind := range actingKinds() {
		sign, pay := []string{"!", "?", "+", "&"}[i], []string{"w", "w", "", ""}[i]
		wantText(t, "no Next", []api.Node{of(kind, 4)}, at(0, 0), 1, sign+"4("+pay+")[]")
		wantText(t, "no Next", []api.Node{of(kind, 4)}, at(0, 0), 0, ".")
		wantText(t, "two Next", []api.Node{of(kind, 4, far(0, 1), far(1, 0)), {}}, at(0, 0), 1, sign+"4("+pay+")[.,0]")
		wantText(t, "a word with an edge", []api.Node{{Kind: kind, Prio: 4, Pay: far(0, 9), Next: []api.Edge{far(0, -6)}}}, at(0, 0), 2,
			sign+"4("+pay+")["+sign+"-2("+pay+")[.]]")
		wantText(t, "edges that lead out", []api.Node{of(kind, 4, far(1, 0), far(-1, 0), far(math.MaxInt, 0))}, at(0, 0), 1, sign+"4("+pay+")[?,?,?]")
		l := []api.Node{ofEnd(kind, 4, far(1, 0), far(1, 0)), {}}
		wantText(t, "an endpoint", l, at(0, 0), 1, sign+"4("+[]string{"0", "0", "", ""}[i]+")[0]")
		l[0].Next = nil
		wantText(t, "an endpoint and no Next", l, at(0, 0), 1, sign+"4("+[]string{"0", "0", "", ""}[i]+")[]")
		l[0].Next = []api.Edge{far(0, 1), far(3, 0), far(1, 1)}
		wantText(t, "an endpoint and three Next", l, at(0, 0), 1, sign+"4("+[]string{"0", "0", "", ""}[i]+")[.,?,0]")
	}
	wantText(t, "an Alias with a priority and a payload", []api.Node{{Kind: api.Alias, Prio: 70, IsChan: true, Pay: far(0, 5), Next: []api.Edge{far(1, -4)}}, of(api.Send, 6, far(0, 1))}, at(0, 0), 2, "!2(w)[!-1(w)[.]]")
}

// rounds is a list of n nodes each of which is a round of its own.
func rounds(n int) []api.Node {
	l := make([]api.Node, n)
	for i := range l {
		l[i] = of(api.Send, 3, far(i, 1))
	}
	return l
}

func TestTextsOfLongLists(t *testing.T) {
	for _, n := range []int{1, 2, 63, 64, 65, 127, 128} {
		wantText(t, "the first node", rounds(n), at(0, 1), 1, "!4(w)[.]")
		wantText(t, "the last node", rounds(n), at(n-1, 1), 2, "!4(w)[!5(w)[.]]")
		wantText(t, "no node", rounds(n), at(n, 0), 2, "?")
	}
	for _, n := range []int{129, 130, 256, 1000, 70000} {
		for _, depth := range []int{-1, 0, 1, 5, 6} {
			wantText(t, "a list that is too long", rounds(n), at(0, 1), depth, "?")
			wantText(t, "a list that is too long", rounds(n), at(n-1, 1), depth, "?")
			wantText(t, "a list that is too long, of Ends", make([]api.Node, n), at(0, 0), depth, "?")
		}
	}
	for _, depth := range []int{-1, 0, 1, 5, 6} {
		for _, l := range [][]api.Node{nil, {}, rounds(3)[:0]} {
			wantText(t, "no list", l, at(0, 0), depth, "?")
			wantText(t, "no list", l, at(-1, 0), depth, "?")
		}
	}
}

// withNext is a list of n nodes: Sends and an End; and one of them, of a kind, has so many Next, all to the End 1.
func withNext(n, node, kind, count int) []api.Node {
	l := rounds(n)
	l[1] = api.Node{}
	l[node] = api.Node{Kind: kind, Prio: 8, Next: make([]api.Edge, count)}
	for i := range l[node].Next {
		l[node].Next[i] = far(1, i)
	}
	return l
}

func TestTextsOfListsWithManyNext(t *testing.T) {
	for _, kind := range append(noKinds(), 0, 1, 2, 3, 4, 5) {
		for _, node := range []int{2, 5} {
			for _, depth := range []int{-1, 0, 1, 5, 6} {
				wantText(t, "a node with 8 Next elsewhere", withNext(6, node, kind, 8), at(1, 0), depth, "0")
				for _, count := range []int{9, 10, 64, 1000} {
					for i := range 6 {
						wantText(t, "a list that has a node with too many Next", withNext(6, node, kind, count), at(i, 0), depth, "?")
					}
				}
			}
			wantText(t, "a node with 8 Next elsewhere", withNext(6, node, kind, 8), at(0, 0), 1, "!3(w)[.]")
		}
	}
	wantText(t, "8 Next", withNext(2, 0, api.Select, 8), at(0, 0), 1, "+8()[0,0,0,0,0,0,0,0]")
	wantText(t, "8 Next", withNext(128, 127, api.Recv, 8), at(127, 0), 1, "?8(w)[0,0,0,0,0,0,0,0]")
	wantText(t, "9 Next", withNext(2, 0, api.Select, 9), at(0, 0), 1, "?")
	wantText(t, "9 Next", withNext(128, 127, api.Recv, 9), at(0, 0), 1, "?")
}

// crowd is a list of n nodes, all alike but for their numbers, that go on to MaxLabels others, and hand over one, too, if they are of endpoints.
func crowd(n, kind int, isChan bool) []api.Node {
	l := make([]api.Node, n)
	for i := range l {
		l[i] = api.Node{Kind: kind, Prio: 1}
		if l[i].IsChan = isChan; isChan {
			l[i].Pay = far((5*i+3)%n, 9)
		}
		for j := range api.MaxLabels {
			l[i].Next = append(l[i].Next, far((i*(j+2)+j)%n, 10+j))
		}
	}
	return l
}

func TestTheLongestTexts(t *testing.T) {
	text := unfold.Text(crowd(128, api.Branch, false), at(0, 0), 5)
	if strings.Count(text, ".") != 8*8*8*8*8 || strings.Count(text, "&") != 1+8+8*8+8*8*8+8*8*8*8 {
		t.Errorf("of 8 Next: %d full stops, %d Branches", strings.Count(text, "."), strings.Count(text, "&"))
	}
	text = unfold.Text(crowd(128, api.Send, true), at(0, 0), 9)
	if strings.Count(text, ".") != 9*9*9*9*9 || strings.Count(text, "!") != 1+9+9*9+9*9*9+9*9*9*9 {
		t.Errorf("of 8 Next and an endpoint: %d full stops, %d Sends", strings.Count(text, "."), strings.Count(text, "!"))
	}
}

// P8.2

func TestTheDepthZeroAndBelow(t *testing.T) {
	l := []api.Node{{}, of(api.Send, 1, far(0, 0)), of(api.Branch, 2, far(1, 1), far(0, 0)), {Kind: 9}, alias(4, 0)}
	for _, depth := range []int{0, -1, -2, -256, -257, math.MinInt32, math.MinInt + 1, math.MinInt} {
		for i := -1; i <= len(l); i++ {
			for j := -1; j <= len(l); j++ {
				wantEqual(t, "the depth 0", l, at(i, 3), at(j, 4), depth, true)
			}
		}
		wantEqual(t, "no list", nil, at(0, 0), at(1, 1), depth, true)
	}
}

func TestTypesThatDoNotAct(t *testing.T) {
	kinds := append(noKinds(), api.End)
	for i, kind := range kinds {
		for j, other := range kinds {
			l := []api.Node{
				{Kind: kind},
				{Kind: other, Prio: 7, IsChan: true, Pay: far(2, 3), Next: []api.Edge{far(2, 1), far(0, 0)}},
				of(api.Send, 1, far(0, 0)),
				alias(0, 5),
				of(api.Send, 1, far(1, 0)),
			}
			if i == j {
				wantSame(t, "of one kind", l, at(0, 0), at(1, 6))
				wantSame(t, "over an alias", l, at(3, 1), at(1, -6))
				wantSame(t, "what goes on to them", l, at(2, 1), at(4, 1))
				continue
			}
			wantEqualTo(t, "of two kinds", l, at(0, 0), at(1, 0), 0)
			wantEqualTo(t, "over an alias", l, at(3, 0), at(1, 5), 0)
			wantEqualTo(t, "what goes on to them", l, at(2, 1), at(4, 1), 1)
		}
		for _, acting := range actingKinds() {
			wantEqualTo(t, "one that acts", []api.Node{{Kind: kind}, of(acting, 0)}, at(0, 0), at(1, 0), 0)
		}
	}
}

func TestTypesThatComeToNone(t *testing.T) {
	nones := append(oddNumbers(), 1, 2, 3, 4, 5, 6, 7, 8, 9, 10, 15, 16, 99, 127, 128)
	for _, a := range nones {
		for _, b := range nones {
			l := append(lost(), api.Node{}, of(api.Send, 2, far(a, 1)), of(api.Send, 2, far(b, 8)), of(api.Send, 2, far(11, 0)))
			wantSame(t, "both none", l, at(a, 3), at(b, 4))
			wantSame(t, "what goes on to none", l, at(12, 3), at(13, 3))
			wantEqualTo(t, "none, and one that acts", l, at(a, 3), at(0, 3), 0)
			wantEqualTo(t, "none, and an End", l, at(a, 3), at(11, 3), 0)
			wantEqualTo(t, "what goes on to none, and to an End", l, at(12, 3), at(14, 3), 1)
		}
	}
	for _, l := range [][]api.Node{nil, {}, rounds(3)[:0]} {
		wantSame(t, "no list", l, at(0, 0), at(0, 0))
		wantSame(t, "no list", l, at(0, 0), at(1, 7))
	}
}

func TestKindsThatDiffer(t *testing.T) {
	for _, kind := range actingKinds() {
		for _, other := range actingKinds() {
			l := []api.Node{of(kind, 3, far(0, 4)), of(other, 3, far(1, 4)), of(kind, 3, far(1, 4))}
			if kind == other {
				wantSame(t, "one kind", l, at(0, 2), at(1, 2))
				continue
			}
			wantEqualTo(t, "two kinds", l, at(0, 2), at(1, 2), 0)
			wantEqualTo(t, "two kinds behind", l, at(0, 2), at(2, 2), 1)
		}
	}
}

func TestPrioritiesThatDiffer(t *testing.T) {
	for _, kind := range actingKinds() {
		l := []api.Node{of(kind, 3, far(0, 4)), of(kind, 5, far(1, 4)), of(kind, 3, far(1, 2)), of(kind, 3, far(1, 1)), {}}
		wantEqualTo(t, "two priorities", l, at(0, 0), at(1, 0), 0)
		wantSame(t, "two priorities, and Offsets for it", l, at(0, 2), at(1, 0))
		wantSame(t, "the same, at other Offsets", l, at(0, math.MaxInt), at(1, math.MaxInt-2))
		wantSame(t, "sums that do not fit", l, at(0, math.MinInt+1), at(1, math.MaxInt))
		wantSame(t, "the same behind", l, at(0, 7), at(2, 7))
		wantEqualTo(t, "two priorities behind", l, at(0, 7), at(3, 7), 1)
		for _, offsets := range [][2]int{{0, 1}, {5, 4}, {-1, 1}, {0, 1000}, {0, 1 << 32}, {math.MinInt, math.MaxInt}, {0, math.MinInt}} {
			wantEqualTo(t, "one node at two Offsets", l, at(0, offsets[0]), at(0, offsets[1]), 0)
			wantSame(t, "an End at two Offsets", l, at(4, offsets[0]), at(4, offsets[1]))
		}
	}
}

func TestNumbersOfNextThatDiffer(t *testing.T) {
	for _, kind := range actingKinds() {
		for count := range api.MaxLabels + 1 {
			for other := range api.MaxLabels + 1 {
				l := []api.Node{of(kind, 3, make([]api.Edge, count)...), of(kind, 3, make([]api.Edge, other)...)}
				for i := range l {
					for j := range l[i].Next {
						l[i].Next[j] = far(7, 1)
					}
				}
				if count == other {
					wantSame(t, "as many Next", l, at(0, 2), at(1, 2))
				} else {
					wantEqualTo(t, "more Next", l, at(0, 2), at(1, 2), 0)
				}
			}
		}
	}
}

func TestPayloadsThatDiffer(t *testing.T) {
	for _, kind := range actingKinds() {
		l := []api.Node{
			{},
			of(kind, 3, far(0, 0)),
			ofEnd(kind, 3, far(0, 0), far(0, 0)),
			ofEnd(kind, 3, far(1, 2), far(0, 0)),
			ofEnd(kind, 3, far(6, 1), far(0, 5)),
			ofEnd(kind, 3, far(1, 3), far(0, 0)),
			alias(1, 1),
			ofEnd(kind, 3, far(3, 2), far(0, 0)),
			ofEnd(kind, 3, far(5, 2), far(0, 0)),
			ofEnd(kind, 3, far(-1, 0), far(0, 0)),
			{Kind: kind, Prio: 3, Pay: far(2, 4), Next: []api.Edge{far(0, 1)}},
		}
		wantEqualTo(t, "a word, and an endpoint", l, at(1, 2), at(2, 2), 0)
		wantEqualTo(t, "an End, and an endpoint that acts", l, at(2, 2), at(3, 2), 1)
		wantSame(t, "an endpoint over an alias", l, at(3, 2), at(4, 2))
		wantEqualTo(t, "endpoints of two priorities", l, at(3, 2), at(5, 2), 1)
		wantEqualTo(t, "endpoints of endpoints of two priorities", l, at(7, 2), at(8, 2), 2)
		wantEqualTo(t, "an End, and an endpoint that comes to none", l, at(2, 2), at(9, 2), 1)
		wantSame(t, "words, one with an edge that does not count", l, at(1, 2), at(10, 2))
	}
}

// Each part is looked at, the first and the last one, too.
func TestEachPartCounts(t *testing.T) {
	for _, kind := range actingKinds() {
		for part := range api.MaxLabels + 1 {
			l := []api.Node{{}, ofEnd(kind, 3, far(0, 1), far(0, 1)), {}, of(api.Send, 9, far(0, 0)), of(api.Send, 10, far(0, 0))}
			for range 7 {
				l[1].Next = append(l[1].Next, far(0, 1))
			}
			l[2] = deep(l)[1]
			wantSame(t, "the same parts", l, at(1, 4), at(2, 4))
			change := func(node int, e api.Edge) {
				if part == api.MaxLabels {
					l[node].Pay = e
				} else {
					l[node].Next[part] = e
				}
			}
			change(2, far(3, 1))
			wantEqualTo(t, "a part that acts, and an End", l, at(1, 4), at(2, 4), 1)
			change(1, far(4, 1))
			wantEqualTo(t, "a part of another priority", l, at(1, 4), at(2, 4), 1)
			change(1, far(4, 0))
			wantSame(t, "parts of one priority", l, at(1, 4), at(2, 4))
		}
	}
}

// chain is a way of n Sends and an End behind them.
func chain(n int) []api.Node {
	l := make([]api.Node, n+1)
	for i := range n {
		l[i] = of(api.Send, 3, far(i+1, 1))
	}
	return l
}

func TestTypesThatPartDeepOnTheWay(t *testing.T) {
	for _, n := range []int{1, 2, 5, 63, 64, 126, 127} {
		wantEqualTo(t, "a way that is one shorter", chain(n), at(0, 0), at(1, 0), n-1)
		wantEqualTo(t, "a way that is shorter", chain(n), at(n/3, 5), at(n, 5), 0)
		wantEqualTo(t, "a way that does not end", append(chain(n-1), of(api.Send, 3, far(n, 1))), at(0, 5), at(n, 5), n-1)
	}
	// Over one Next, and over none of the others.
	l := []api.Node{of(api.Select, 0, far(6, 0), far(1, 9)), of(api.Branch, 0, far(2, 9), far(6, 0)), {}, of(api.Select, 0, far(6, 0), far(4, 9)), of(api.Branch, 0, far(5, 9), far(6, 0)), {}, {}}
	l[2], l[5] = of(api.Send, 8, far(0, 0)), of(api.Send, 8, far(3, 1))
	wantEqualTo(t, "one rises further on its way back", l, at(0, 4), at(3, 4), 3)
	l[5].Next[0].Shift = 0
	wantSame(t, "both rise as far", l, at(0, 4), at(3, 4))
}

// ring is nodes of a round: each goes on to the next one and rises by 1; that of the last one goes to the first one. They are of the kinds of a text, + Select, - Send.
func ring(first int, kinds string) []api.Node {
	var l []api.Node
	for i, sign := range kinds {
		kind := api.Send
		if sign == '+' {
			kind = api.Select
		}
		l = append(l, of(kind, 2, far(first+(i+1)%len(kinds), 1)))
	}
	return l
}

func TestTypesThatGoRound(t *testing.T) {
	l := append(ring(0, "-+"), ring(2, "-+-+-+")...)
	wantSame(t, "a round, and one that is three times as long", l, at(0, 5), at(2, 5))
	wantSame(t, "the same, two nodes on", l, at(0, 5), at(4, 5))
	wantEqualTo(t, "the same, one node on", l, at(0, 5), at(3, 5), 0)
	l = append(ring(0, "--+"), ring(3, "--+--")...)
	wantEqualTo(t, "rounds that part", l, at(0, 5), at(3, 5), 5)
	wantEqualTo(t, "a round, and a node on", l, at(0, 5), at(1, 5), 1)
	long := strings.Repeat("-", 62) + "+"
	l = append(ring(0, long), ring(63, long+"--")...)
	wantEqualTo(t, "long rounds that part", l, at(0, 5), at(63, 5), 125)
	l = append(ring(0, strings.Repeat("-", 64)), ring(64, strings.Repeat("-", 63))...)
	wantSame(t, "long rounds", l, at(0, 5), at(64, 5))
	wantSame(t, "long rounds, anywhere", l, at(17, 5), at(99, 5))
}

// The same two nodes are met at many priorities, on ways of many lengths.
func TestNodesThatAreMetAgain(t *testing.T) {
	l := []api.Node{
		of(api.Branch, 1, far(0, 2), far(1, 5), far(2, 0)), of(api.Branch, 4, far(1, 4), far(0, 1), far(2, 0)), {},
		of(api.Branch, 11, far(3, 2), far(4, 5), far(2, 0)), of(api.Branch, 14, far(4, 4), far(3, 1), far(2, 0)),
	}
	wantSame(t, "two rounds in one", l, at(0, 10), at(3, 0))
	wantSame(t, "two rounds in one", l, at(1, 0), at(4, -10))
	l[4].Next[0].Shift = 5
	wantEqualTo(t, "one rises further on one way back", l, at(0, 10), at(3, 0), 2)
	wantEqualTo(t, "the same, from its node on", l, at(1, 0), at(4, -10), 1)
	// A pair that was met at the right priority is met again at a wrong one.
	l = []api.Node{of(api.Select, 1, far(2, 1), far(2, 1)), of(api.Select, 1, far(3, 1), far(3, 2)), of(api.Send, 1, far(4, 0)), of(api.Send, 1, far(4, 0)), {}}
	wantEqualTo(t, "a pair at a wrong priority", l, at(0, 0), at(1, 0), 1)
	// It is met first where the depth ends, then with more of it left, or the other way round.
	l = []api.Node{of(api.Select, 1, far(2, 0), far(4, 0)), of(api.Select, 1, far(3, 0), far(5, 0)), of(api.Send, 1, far(4, 0)), of(api.Send, 1, far(5, 0)), of(api.Recv, 1, far(6, 0)), of(api.Recv, 1, far(7, 0)), of(api.Send, 1, far(8, 0)), of(api.Send, 1, far(9, 0)), {}, {Kind: 9}}
	wantEqualTo(t, "the far way first", l, at(0, 0), at(1, 0), 3)
	for i := range 2 {
		l[i].Next[0], l[i].Next[1] = l[i].Next[1], l[i].Next[0]
	}
	wantEqualTo(t, "the near way first", l, at(0, 0), at(1, 0), 3)
}

func TestEqualOfLongLists(t *testing.T) {
	for _, n := range []int{2, 63, 64, 65, 127, 128} {
		wantSame(t, "the first and the last node", rounds(n), at(0, 1), at(n-1, 1))
		wantEqualTo(t, "the last node, and none", rounds(n), at(n-1, 1), at(n, 1), 0)
	}
	for _, n := range []int{129, 130, 256, 1000, 70000} {
		wantEqualTo(t, "two nodes of a list that is too long", rounds(n), at(0, 1), at(n-1, 1), 0)
		wantEqualTo(t, "one node of a list that is too long", rounds(n), at(0, 1), at(0, 1), 0)
		wantEqualTo(t, "two Ends of a list that is too long", make([]api.Node, n), at(1, 0), at(2, 0), 0)
		wantEqualTo(t, "no nodes of a list that is too long", rounds(n), at(-1, 0), at(n, 0), 0)
	}
	for _, kind := range append(noKinds(), 0, 1, 2, 3, 4, 5) {
		wantSame(t, "a node with 8 Next", withNext(6, 5, kind, 8), at(5, 2), at(5, 2))
		wantSame(t, "a node with 8 Next elsewhere", withNext(6, 5, kind, 8), at(0, 2), at(3, 2))
		for _, count := range []int{9, 10, 64, 1000} {
			l := withNext(6, 5, kind, count)
			wantEqualTo(t, "a node with too many Next", l, at(5, 2), at(5, 2), 0)
			wantEqualTo(t, "a node with too many Next elsewhere", l, at(0, 2), at(3, 2), 0)
			wantEqualTo(t, "an End beside a node with too many Next", l, at(1, 0), at(1, 0), 0)
			wantEqualTo(t, "none beside a node with too many Next", l, at(-1, 0), at(6, 0), 0)
		}
	}
}

// If what was found of two nodes were not kept, these would not end.
func TestEqualOfCrowds(t *testing.T) {
	for _, kind := range actingKinds() {
		l := crowd(128, kind, true)
		for i := range l {
			for j := range l[i].Next {
				l[i].Next[j].Shift = 7
			}
		}
		for _, depth := range beyond() {
			if !unfold.Equal(l, at(1, 0), at(2, 0), depth) || unfold.Equal(l, at(1, 0), at(2, 1), depth) {
				t.Errorf("a crowd of the kind %d is not equal to the depth %d", kind, depth)
			}
		}
		l[77].Next[6].Shift = 8
		if unfold.Equal(l, at(1, 0), at(2, 0), 256) {
			t.Errorf("a crowd of the kind %d is equal, but one edge rises further", kind)
		}
	}
}

// R5

func TestRoomBehindWhatIsHandedInStays(t *testing.T) {
	l := tables.Roomy(append(crowd(4, api.Send, true), of(api.Select, 1, far(0, 1), far(2, 2))))
	unfold.Text(l, at(0, 0), 5)
	unfold.Text(l, at(4, 0), 5)
	unfold.Equal(l, at(0, 0), at(1, 0), 256)
	if !tables.IsRoomEmpty(l) {
		t.Errorf("something stands behind what was handed in: %v", l)
	}
}

func TestNothingIsKept(t *testing.T) {
	l := []api.Node{of(api.Send, 1, far(0, 4)), of(api.Send, 1, far(1, 4))}
	wantText(t, "a round", l, at(0, 0), 2, "!1(w)[!5(w)[.]]")
	wantSame(t, "two rounds", l, at(0, 0), at(1, 0))
	l[0].Next[0].Shift = 5
	wantText(t, "the round, changed", l, at(0, 0), 2, "!1(w)[!6(w)[.]]")
	wantEqualTo(t, "two rounds, one changed", l, at(0, 0), at(1, 0), 1)
}

// P8.1 to P8.3 against a plain reading of the chapter

// plainGoal is the type that a type comes to, and whether there is one.
func plainGoal(nodes []api.Node, x api.Type) (api.Type, bool) {
	for range len(nodes) + 1 {
		if x.Node < 0 || x.Node >= len(nodes) {
			return at(0, 0), false
		}
		n := nodes[x.Node]
		if n.Kind != api.Alias {
			return x, true
		}
		if len(n.Next) != 1 {
			return at(0, 0), false
		}
		x = plainAlong(x, n.Next[0])
	}
	return at(0, 0), false
}

// plainAlong is where an edge of what was come to goes.
func plainAlong(x api.Type, e api.Edge) api.Type { return at(e.To, x.Offset+e.Shift) }

// plainActs tells whether a node acts.
func plainActs(n api.Node) bool {
	return n.Kind == api.Send || n.Kind == api.Recv || n.Kind == api.Select || n.Kind == api.Branch
}

// plainIsTooLarge tells whether a list is too large.
func plainIsTooLarge(nodes []api.Node) bool {
	for _, n := range nodes {
		if len(n.Next) > 8 {
			return true
		}
	}
	return len(nodes) > 128
}

// plainText is the text of a type of a list that is not too large to a depth from 0 to 5, word by word.
func plainText(nodes []api.Node, x api.Type, depth int) string {
	goal, is := plainGoal(nodes, x)
	if !is {
		return "?"
	}
	n := nodes[goal.Node]
	if !plainActs(n) {
		return "0"
	}
	if depth == 0 {
		return "."
	}
	text := map[int]string{api.Send: "!", api.Recv: "?", api.Select: "+", api.Branch: "&"}[n.Kind] + strconv.Itoa(n.Prio+goal.Offset) + "("
	if n.Kind == api.Send || n.Kind == api.Recv {
		if n.IsChan {
			text += plainText(nodes, plainAlong(goal, n.Pay), depth-1)
		} else {
			text += "w"
		}
	}
	text += ")["
	for i, e := range n.Next {
		if i > 0 {
			text += ","
		}
		text += plainText(nodes, plainAlong(goal, e), depth-1)
	}
	return text + "]"
}

// asked is what plainEqual was asked.
type asked struct {
	a, b  api.Type
	depth int
}

// plainEqual tells whether two types of a list that is not too large are equal to a depth from 0 on, word by word. What it found is kept, lest it be asked too often.
func plainEqual(nodes []api.Node, a, b api.Type, depth int, found map[asked]bool) bool {
	if depth == 0 {
		return true
	}
	x, isX := plainGoal(nodes, a)
	y, isY := plainGoal(nodes, b)
	if !isX || !isY {
		return isX == isY
	}
	m, n := nodes[x.Node], nodes[y.Node]
	if !plainActs(m) || !plainActs(n) {
		return m.Kind == n.Kind
	}
	if m.Kind != n.Kind || m.Prio+x.Offset != n.Prio+y.Offset || len(m.Next) != len(n.Next) || m.IsChan != n.IsChan {
		return false
	}
	key := asked{x, y, depth}
	if are, is := found[key]; is {
		return are
	}
	are := !m.IsChan || plainEqual(nodes, plainAlong(x, m.Pay), plainAlong(y, n.Pay), depth-1, found)
	for i := range m.Next {
		are = are && plainEqual(nodes, plainAlong(x, m.Next[i]), plainAlong(y, n.Next[i]), depth-1, found)
	}
	found[key] = are
	return are
}

// wantAsPlain holds Text of a type to all depths, and Equal of it and another one to some of them, against the plain reading.
func wantAsPlain(t *testing.T, nodes []api.Node, a, b api.Type, depths ...int) {
	t.Helper()
	for depth := range 4 {
		wantText(t, "as plain", nodes, a, depth, plainText(nodes, a, depth))
	}
	found := map[asked]bool{}
	for _, depth := range depths {
		wantEqual(t, "as plain", nodes, a, b, depth, plainEqual(nodes, a, b, depth, found))
	}
	if t.Failed() {
		t.Fatalf("of the list %v", nodes)
	}
}

// deepest is the greatest depth to which two types are equal: n times n and more does for all. It asks whether they are so to each lesser one, and to no greater one.
func deepest(t *testing.T, nodes []api.Node, a, b api.Type) int {
	t.Helper()
	all := len(nodes)*len(nodes) + 1
	last := -1
	for depth := range all + 1 {
		if unfold.Equal(nodes, a, b, depth) {
			if last != depth-1 {
				t.Errorf("%v and %v are equal to %d, but not to %d", a, b, depth, depth-1)
			}
			last = depth
		}
	}
	if last == all-1 {
		t.Errorf("%v and %v are equal to n times n, but not to each depth", a, b)
	}
	for _, depth := range beyond() {
		if depth > all && unfold.Equal(nodes, a, b, depth) != (last == all) {
			t.Errorf("%v and %v are equal to %d, but to %d: %v", a, b, last, depth, last != all)
		}
	}
	return last
}

// wantWhatFollows asks for P8.3 of two types. It answers to which depth they are equal.
func wantWhatFollows(t *testing.T, nodes []api.Node, a, b api.Type) int {
	t.Helper()
	last := deepest(t, nodes, a, b)
	for depth := range min(last, 5) {
		if unfold.Text(nodes, a, depth) != unfold.Text(nodes, b, depth) {
			t.Errorf("%v and %v are equal to %d, but their texts to %d differ", a, b, last, depth)
		}
	}
	for _, by := range []int{1, -1, 1000, math.MaxInt, math.MinInt} {
		x, y := at(a.Node, a.Offset+by), at(b.Node, b.Offset+by)
		for _, depth := range []int{last, last + 1, len(nodes) * len(nodes), 256} {
			if unfold.Equal(nodes, x, y, depth) != unfold.Equal(nodes, a, b, depth) {
				t.Errorf("%v and %v: with %d added to their Offsets it is another thing whether they are equal to %d", a, b, by, depth)
			}
		}
	}
	for _, depth := range []int{1, 2, len(nodes) * len(nodes), 256} {
		wantEqual(t, "a type and itself", nodes, a, a, depth, true)
	}
	wantEqual(t, "the other way round", nodes, a, b, last, true)
	if t.Failed() {
		t.Fatalf("of the list %v", nodes)
	}
	return last
}

// level is the Offset at which a type of a node has the priority 0, if it acts.
func level(nodes []api.Node, node int) int {
	goal, is := plainGoal(nodes, at(node, 0))
	if !is {
		return 0
	}
	return -goal.Offset - nodes[goal.Node].Prio
}

// All lists of up to three nodes, of some that count, and each pair of their types, of one priority and of two.
func TestAllSmallLists(t *testing.T) {
	found := map[int]int{}
	for n := 1; n <= 3; n++ {
		pool := []api.Node{{}, {Kind: 6}, of(api.Send, 0, far(n, 1)), of(api.Select, 0)}
		for goal := range n {
			pool = append(pool, alias(goal, 1), of(api.Send, 0, far(goal, 2)), of(api.Send, 1, far(goal, 2)), of(api.Send, 1, far(goal, 3)), of(api.Recv, 1, far(goal, 1)),
				ofEnd(api.Send, 0, far(goal, 2), far(0, 2)), ofEnd(api.Select, 1, far(0, 3), far(goal, 3)), of(api.Branch, 1, far(goal, 2), far(n-1, 3)))
		}
		number := 0
		for l := range tables.All(n, pool) {
			number++
			a, b := at(0, level(l, 0)), at(n-1, level(l, n-1))
			wantAsPlain(t, l, a, b, 0, 1, 2, 3, 4)
			wantAsPlain(t, l, a, at(n-1, b.Offset+1), 0, 1, 2)
			if n < 3 || number%9 == 0 {
				wantAsPlain(t, l, a, b, 9, 10, 11)
				last := wantWhatFollows(t, l, a, b)
				if last > n*n {
					last = 100
				}
				found[last]++
			}
		}
	}
	for _, last := range []int{0, 1, 2, 100} {
		if found[last] < 10 {
			t.Errorf("by how deep they are equal: %v", found)
		}
	}
}

// wild is a list of n nodes with whatever may stand there, and some that may not: all numbers are of few, so that parts are often the same.
func wild(r *tables.Row, n int) []api.Node {
	l := make([]api.Node, n)
	edge := func() api.Edge { return far(r.Below(n+2)-r.Below(2), r.Below(4)-1) }
	odd := oddNumbers()
	for i := range l {
		l[i] = api.Node{Kind: 1 + r.Below(3), Prio: r.Below(3) - 1, IsChan: r.Below(4) == 0, Pay: edge()}
		switch r.Below(12) {
		case 0:
			l[i].Kind = r.Below(9) - 1
		case 1:
			l[i] = alias(r.Below(n), r.Below(3))
		case 2:
			l[i].Prio = odd[r.Below(len(odd))]
		case 3:
			l[i].Next = append(l[i].Next, far(r.Below(n), odd[r.Below(len(odd))]))
		}
		for range r.Below(4) {
			l[i].Next = append(l[i].Next, edge())
		}
	}
	return l
}

func TestWildLists(t *testing.T) {
	r := tables.Row(9)
	found := map[bool]int{}
	for range 6000 {
		n := 1 + r.Below(6)
		l := wild(&r, n)
		for range 4 {
			a, b := r.Below(n), r.Below(n)
			wantAsPlain(t, l, at(a, level(l, a)), at(b, level(l, b)), 0, 1, 2, 3, 4, 5, 6)
		}
		a, b := r.Below(n+2)-1, r.Below(n+2)-1
		wantAsPlain(t, l, at(a, r.Below(3)), at(b, r.Below(3)), 1, 2, 5)
		found[wantWhatFollows(t, l, at(a, level(l, a)), at(b, level(l, b))) > 1]++
	}
	if found[true] < 1000 || found[false] < 1000 {
		t.Errorf("are they equal to a depth above 1? %v", found)
	}
}

// Types of a dual table are equal just if their class and priority are the same.
func TestTypesOfOneClass(t *testing.T) {
	r := tables.Row(10)
	found := map[bool]int{}
	for number := range 900 {
		prios := 1 + r.Below(9)
		l := tables.Mixed(&r, 1+r.Below(12), prios, prios)
		if number%2 == 0 {
			l, _ = tables.Copies(&r, tables.Mixed(&r, 1+r.Below(5), 30, 330), 2+r.Below(3))
		}
		x, e := class.Of(l)
		if e != api.OK {
			continue
		}
		two := dual.Table(l)
		for i := range two {
			j := r.Below(len(two))
			a, b := at(i, level(two, i)), at(j, level(two, j))
			are := x.Of[i] == x.Of[j]
			wantEqual(t, "of one class", two, a, b, len(two)*len(two), are)
			wantEqual(t, "of one class", two, a, b, 256, are)
			if two[graph.Resolve(two, a).Node].Kind != api.End {
				wantEqual(t, "of two priorities", two, a, at(j, b.Offset+1), 1, false)
			}
			if i != j {
				found[are]++
			}
			if len(two) <= 10 {
				wantWhatFollows(t, two, a, b)
			}
		}
		if t.Failed() {
			t.Fatalf("of the table %v", l)
		}
	}
	if found[true] < 500 || found[false] < 500 {
		t.Errorf("are they of one class? %v", found)
	}
}

// Copies of a table, each of which goes on to any of them, are equal at Offsets by which none is above the other.
func TestCopiesAreEqual(t *testing.T) {
	r := tables.Row(11)
	for range 300 {
		n, count := 1+r.Below(7), 2+r.Below(8)
		l, above := tables.Copies(&r, tables.Mixed(&r, n, 30, 330), count)
		for i := range n {
			c, d := r.Below(count), r.Below(count)
			offset := r.Below(1000) - 500
			a, b := at(c*n+i, offset-above[c]), at(d*n+i, offset-above[d])
			if l[a.Node].Kind == api.Alias { // it is not laid higher, but what it comes to is
				wantText(t, "an alias", l, a, 2, plainText(l, a, 2))
			}
			wantSame(t, "two copies", l, a, b)
			for depth := range 4 {
				wantText(t, "two copies", l, a, depth, unfold.Text(l, b, depth))
			}
		}
	}
}
