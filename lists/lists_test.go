package lists_test

import (
	"slices"
	"testing"

	"colloquy/lists"
)

func TestACopyHasRoomAndSharesNothing(t *testing.T) {
	for _, l := range [][]int{{}, {1}, {1, 2, 3}, make([]int, 100)} {
		was := slices.Clone(l)
		c := lists.Roomy(l)
		if !slices.Equal(c, l) || cap(c) < len(c)+4 || !lists.IsRoomZero(c) {
			t.Errorf("the copy of %v is %v, with room for %d", l, c, cap(c))
		}
		for i := range c {
			c[i] = 99
		}
		if !slices.Equal(l, was) {
			t.Error("the copy shares with what it is of")
		}
	}
	if lists.Roomy[int](nil) != nil {
		t.Error("the copy of a list that is nil is none")
	}
}

func TestWhatIsLaidBehindAList(t *testing.T) {
	alike := func(a, b []int) bool { return slices.Equal(a, b) }
	for i := range 4 {
		l := lists.Roomy([]int{5, 6})
		if l[:6][2+i] = 7; lists.IsRoomZero(l) {
			t.Errorf("what is laid %d behind a list is not seen", i)
		}
		deep := lists.Roomy([][]int{{5}, {6}})
		if !lists.IsRoomEmpty(deep, alike) {
			t.Error("something is laid behind a list")
		}
		if deep[:6][2+i] = []int{}; !lists.IsRoomEmpty(deep, alike) {
			t.Error("an empty list is not like one that is nil")
		}
		if deep[:6][2+i] = []int{0}; lists.IsRoomEmpty(deep, alike) {
			t.Errorf("what is laid %d behind a list is not seen", i)
		}
	}
	if !lists.IsRoomZero[int](nil) || !lists.IsRoomZero([]int{1}) {
		t.Error("something is laid where no room is")
	}
}
