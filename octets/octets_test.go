package octets_test

import (
	"math"
	"strings"
	"testing"

	"colloquy/api"
	"colloquy/faults"
	"colloquy/octets"
)

// wantFault asks for a *api.Fault of that code and place.
func wantFault(t *testing.T, what string, err error, code api.Errno, at int) {
	t.Helper()
	if wrong := faults.Unlike(err, code, at); wrong != "" {
		t.Errorf("%s: %s", what, wrong)
	}
}

// wantAt asks where a reader stands, and what is left of it.
func wantAt(t *testing.T, what string, r *octets.Reader, place, left int) {
	t.Helper()
	if r.Place() != place || r.Left() != left {
		t.Errorf("%s: place %d, left %d, but %d and %d are asked for", what, r.Place(), r.Left(), place, left)
	}
}

func wantByte(t *testing.T, r *octets.Reader, b byte) {
	t.Helper()
	if got, err := r.Byte(); got != b || err != nil {
		t.Errorf("Byte: %d, %v, but %d is asked for", got, err, b)
	}
}

func wantTake(t *testing.T, r *octets.Reader, n int, s string) {
	t.Helper()
	if got, err := r.Take(n); got != s || err != nil {
		t.Errorf("Take(%d): %q, %v, but %q is asked for", n, got, err, s)
	}
}

func mustPart(t *testing.T, r *octets.Reader, n int) *octets.Reader {
	t.Helper()
	p, err := r.Part(n)
	if err != nil || p == nil {
		t.Fatalf("Part(%d): %v, %v", n, p, err)
	}
	return p
}

func wantNoByte(t *testing.T, r *octets.Reader, code api.Errno, at int) {
	t.Helper()
	b, err := r.Byte()
	wantFault(t, "Byte", err, code, at)
	if b != 0 {
		t.Errorf("Byte: %d beside a fault", b)
	}
}

func wantNoTake(t *testing.T, r *octets.Reader, n int, code api.Errno, at int) {
	t.Helper()
	s, err := r.Take(n)
	wantFault(t, "Take", err, code, at)
	if s != "" {
		t.Errorf("Take(%d): %q beside a fault", n, s)
	}
}

func wantNoPart(t *testing.T, r *octets.Reader, n int, code api.Errno, at int) {
	t.Helper()
	p, err := r.Part(n)
	wantFault(t, "Part", err, code, at)
	if p != nil {
		t.Errorf("Part(%d): a reader beside a fault", n)
	}
}

// allBytes is each byte once.
func allBytes() string {
	w := octets.NewWriter()
	for b := range 256 {
		w.Byte(byte(b))
	}
	return w.Text()
}

// P1.1

func TestNewReaderStandsAtItsBeginning(t *testing.T) {
	for _, s := range []string{"", "a", "\x00", "\xff\xfe", "hello", allBytes()} {
		r := octets.NewReader(s)
		if r == nil {
			t.Fatalf("no reader of %q", s)
		}
		wantAt(t, s, r, 0, len(s))
	}
}

func TestPlaceAndLeftGoAlong(t *testing.T) {
	r := octets.NewReader("abcdefgh")
	wantByte(t, r, 'a')
	wantAt(t, "behind a byte", r, 1, 7)
	wantTake(t, r, 3, "bcd")
	wantAt(t, "behind four", r, 4, 4)
	mustPart(t, r, 2)
	wantAt(t, "behind a part", r, 6, 2)
	wantTake(t, r, 2, "gh")
	wantAt(t, "at the end", r, 8, 0)
}

func TestPlaceAndLeftReadNothing(t *testing.T) {
	r := octets.NewReader("ab")
	wantAt(t, "once", r, 0, 2)
	wantAt(t, "twice", r, 0, 2)
	wantByte(t, r, 'a')
}

func TestReadersOfOneTextGoApart(t *testing.T) {
	s := "abc"
	a, b := octets.NewReader(s), octets.NewReader(s)
	wantTake(t, a, 2, "ab")
	wantAt(t, "the one", a, 2, 1)
	wantAt(t, "the other one", b, 0, 3)
	wantByte(t, b, 'a')
}

// P1.2

func TestFirstExample(t *testing.T) {
	r := octets.NewReader("\x01\x02\x03")
	wantByte(t, r, 1)
	wantAt(t, "behind the first byte", r, 1, 2)
	wantTake(t, r, 2, "\x02\x03")
	if err := r.End(); err != nil {
		t.Error("End:", err)
	}
}

func TestSecondExample(t *testing.T) {
	r := octets.NewReader("\x01\x02\x03")
	wantNoTake(t, r, 4, api.ErrShort, 0)
	wantNoTake(t, r, -1, api.ErrArg, 0)
	wantAt(t, "behind both", r, 0, 3)
	wantFault(t, "End", r.End(), api.ErrLong, 0)
}

func TestThirdExample(t *testing.T) {
	r := octets.NewReader("\x01\x02\x03\x04")
	wantByte(t, r, 1)
	p := mustPart(t, r, 2)
	wantAt(t, "the part", p, 1, 2)
	wantTake(t, p, 2, "\x02\x03")
	wantNoByte(t, p, api.ErrShort, 3)
	wantAt(t, "the whole", r, 3, 1)
}

func TestEachByteIsTold(t *testing.T) {
	r := octets.NewReader(allBytes())
	for b := range 256 {
		wantByte(t, r, byte(b))
	}
	wantNoByte(t, r, api.ErrShort, 256)
}

func TestNoByteIsLeft(t *testing.T) {
	empty, read := octets.NewReader(""), octets.NewReader("ab")
	wantTake(t, read, 2, "ab")
	for place, r := range map[int]*octets.Reader{0: empty, 2: read} {
		wantNoByte(t, r, api.ErrShort, place)
		wantNoTake(t, r, 1, api.ErrShort, place)
		wantNoPart(t, r, 1, api.ErrShort, place)
		wantNoByte(t, r, api.ErrShort, place)
		wantAt(t, "behind the faults", r, place, 0)
	}
}

func TestNothingIsTaken(t *testing.T) {
	r := octets.NewReader("ab")
	for place := range 3 {
		wantTake(t, r, 0, "")
		wantAt(t, "behind nothing", r, place, 2-place)
		p := mustPart(t, r, 0)
		wantAt(t, "a part without bytes", p, place, 0)
		wantNoByte(t, p, api.ErrShort, place)
		wantAt(t, "behind it", r, place, 2-place)
		if place < 2 {
			wantByte(t, r, "ab"[place])
		}
	}
}

// At the end too: ErrArg is the answer there, though no byte is left.
func TestBelowNothing(t *testing.T) {
	for _, n := range []int{-1, -2, -256, math.MinInt32, math.MinInt + 1, math.MinInt} {
		r := octets.NewReader("abc")
		for place := range 4 {
			wantNoTake(t, r, n, api.ErrArg, place)
			wantNoPart(t, r, n, api.ErrArg, place)
			wantAt(t, "behind the faults", r, place, 3-place)
			if place < 3 {
				wantByte(t, r, "abc"[place])
			}
		}
	}
}

func TestJustAsManyAsAreLeftAndMore(t *testing.T) {
	for at := range 5 {
		left := 4 - at
		for _, n := range []int{left + 1, left + 2, math.MaxInt32, math.MaxInt - 1, math.MaxInt} {
			r := octets.NewReader("abcd")
			wantTake(t, r, at, "abcd"[:at])
			wantNoTake(t, r, n, api.ErrShort, at)
			wantNoPart(t, r, n, api.ErrShort, at)
			wantAt(t, "behind the faults", r, at, left)
			wantTake(t, r, left, "abcd"[at:])
			wantAt(t, "behind all", r, 4, 0)
		}
		r := octets.NewReader("abcd")
		wantTake(t, r, at, "abcd"[:at])
		p := mustPart(t, r, left)
		wantAt(t, "behind the part", r, 4, 0)
		wantAt(t, "the part", p, at, left)
		wantTake(t, p, left, "abcd"[at:])
	}
}

func TestAFaultIsNoEnd(t *testing.T) {
	r := octets.NewReader("abc")
	wantByte(t, r, 'a')
	wantNoTake(t, r, 3, api.ErrShort, 1)
	wantNoPart(t, r, 3, api.ErrShort, 1)
	wantNoTake(t, r, -1, api.ErrArg, 1)
	wantByte(t, r, 'b')
	wantTake(t, r, 1, "c")
}

func TestAPartIsAReaderOfItsOwn(t *testing.T) {
	r := octets.NewReader("abcdef")
	wantByte(t, r, 'a')
	p := mustPart(t, r, 3)
	wantByte(t, r, 'e')
	wantAt(t, "the part, when the whole one went on", p, 1, 3)
	wantTake(t, p, 3, "bcd")
	wantAt(t, "the whole one, when the part went on", r, 5, 1)
	wantNoTake(t, p, 1, api.ErrShort, 4)
	wantByte(t, r, 'f')
}

func TestPartsOfParts(t *testing.T) {
	r := octets.NewReader("0123456789")
	wantTake(t, r, 2, "01")
	p := mustPart(t, r, 6)
	wantByte(t, p, '2')
	q := mustPart(t, p, 4)
	wantByte(t, q, '3')
	o := mustPart(t, q, 2)
	wantAt(t, "whole", r, 8, 2)
	wantAt(t, "part", p, 7, 1)
	wantAt(t, "part of a part", q, 6, 1)
	wantAt(t, "part of that", o, 4, 2)
	wantTake(t, o, 2, "45")
	wantNoByte(t, o, api.ErrShort, 6)
	wantNoTake(t, q, 2, api.ErrShort, 6)
	wantNoTake(t, q, math.MaxInt, api.ErrShort, 6)
	wantNoPart(t, q, -1, api.ErrArg, 6)
	wantByte(t, q, '6')
	wantFault(t, "End", p.End(), api.ErrLong, 7)
	wantByte(t, p, '7')
	wantNoPart(t, p, 1, api.ErrShort, 8)
	wantTake(t, r, 2, "89")
}

func TestFaultsAreNew(t *testing.T) {
	r := octets.NewReader("")
	_, first := r.Byte()
	f, is := first.(*api.Fault)
	if !is {
		t.Fatal(first)
	}
	f.Code, f.At = api.ErrWord, 99
	wantNoByte(t, r, api.ErrShort, 0)
}

// P1.3

func TestEnd(t *testing.T) {
	r := octets.NewReader("ab")
	for place := range 2 {
		wantFault(t, "End", r.End(), api.ErrLong, place)
		wantFault(t, "End again", r.End(), api.ErrLong, place)
		wantAt(t, "behind End", r, place, 2-place)
		wantByte(t, r, "ab"[place])
	}
	for _, e := range []*octets.Reader{r, octets.NewReader(""), mustPart(t, r, 0)} {
		if err := e.End(); err != nil {
			t.Errorf("End where no byte is left: %#v", err)
		}
	}
}

func TestEndOfAPart(t *testing.T) {
	r := octets.NewReader("abcd")
	wantByte(t, r, 'a')
	p := mustPart(t, r, 2)
	wantFault(t, "the part's", p.End(), api.ErrLong, 1)
	wantTake(t, p, 2, "bc")
	if err := p.End(); err != nil {
		t.Error("the part's bytes are read, but not the whole one's:", err)
	}
	wantFault(t, "the whole one's", r.End(), api.ErrLong, 3)
}

func TestReaderThatIsNone(t *testing.T) {
	var r *octets.Reader
	wantNoByte(t, r, api.ErrNil, 0)
	for _, n := range []int{0, 1, -1, math.MinInt, math.MaxInt} {
		wantNoTake(t, r, n, api.ErrNil, 0)
		wantNoPart(t, r, n, api.ErrNil, 0)
	}
	wantFault(t, "End", r.End(), api.ErrNil, 0)
	wantAt(t, "none", r, 0, 0)
}

func TestReaderThatWasNotMade(t *testing.T) {
	r := new(octets.Reader)
	wantAt(t, "one that was not made", r, 0, 0)
	wantNoByte(t, r, api.ErrShort, 0)
	wantTake(t, r, 0, "")
	if err := r.End(); err != nil {
		t.Error("End:", err)
	}
}

// P1.4

func wantText(t *testing.T, w *octets.Writer, s string) {
	t.Helper()
	if w.Text() != s || w.Len() != len(s) {
		t.Errorf("%q, %d, but %q is asked for", w.Text(), w.Len(), s)
	}
}

func TestWriter(t *testing.T) {
	w := octets.NewWriter()
	if w == nil {
		t.Fatal("no writer")
	}
	wantText(t, w, "")
	w.Put("")
	wantText(t, w, "")
	w.Byte(0)
	wantText(t, w, "\x00")
	w.Put("ab\xff")
	wantText(t, w, "\x00ab\xff")
	w.Byte(200)
	w.Byte('c')
	wantText(t, w, "\x00ab\xff\xc8c")
	w.Put("")
	wantText(t, w, "\x00ab\xff\xc8c")
	long := strings.Repeat("xyz", 50000)
	w.Put(long)
	wantText(t, w, "\x00ab\xff\xc8c"+long)
}

func TestWritersGoApart(t *testing.T) {
	a, b := octets.NewWriter(), octets.NewWriter()
	a.Put("abc")
	b.Byte('x')
	wantText(t, a, "abc")
	wantText(t, b, "x")
}

func TestTextThatWasToldStays(t *testing.T) {
	w := octets.NewWriter()
	var told []string
	for i := range 100 {
		told = append(told, w.Text())
		w.Byte(byte(i))
	}
	for i, s := range told {
		if s != w.Text()[:i] {
			t.Errorf("what was told when there were %d bytes is %q now", i, s)
		}
	}
}

func TestWriterThatIsNone(t *testing.T) {
	var w *octets.Writer
	w.Byte(1)
	w.Put("abc")
	wantText(t, w, "")
}

func TestWriterThatWasNotMade(t *testing.T) {
	w := new(octets.Writer)
	wantText(t, w, "")
	w.Put("ab")
	w.Byte('c')
	wantText(t, w, "abc")
}

// P1.5

// answer is all that one call tells, and where the reader stands behind it.
type answer struct {
	text  string
	code  api.Errno
	at    int
	place int
}

// ask takes n bytes of a reader; 0 asks for one byte, by Byte.
func ask(r *octets.Reader, n int) answer {
	var a answer
	var err error
	if n == 0 {
		var b byte
		if b, err = r.Byte(); err == nil {
			a.text = string([]byte{b})
		}
	} else {
		a.text, err = r.Take(n)
	}
	if f, is := err.(*api.Fault); is {
		a.code, a.at = f.Code, f.At
	}
	a.place = r.Place()
	return a
}

// askAll takes as each of the numbers says, one behind the other.
func askAll(r *octets.Reader, sizes []int) []answer {
	var l []answer
	for _, n := range sizes {
		l = append(l, ask(r, n))
	}
	return l
}

func sameAnswers(a, b []answer) bool {
	for i := range a {
		if a[i] != b[i] {
			return false
		}
	}
	return len(a) == len(b)
}

// waysToRead are all rows of two calls or fewer that read at most n bytes.
func waysToRead(n int) [][]int {
	length := func(size int) int { return max(size, 1) }
	all := [][]int{nil}
	for a := range n + 1 {
		if length(a) <= n {
			all = append(all, []int{a})
		}
		for b := range n + 1 {
			if length(a)+length(b) <= n {
				all = append(all, []int{a, b})
			}
		}
	}
	return all
}

func TestAPartTellsWhatTheWholeTells(t *testing.T) {
	s := "\x00ab\x80\xffz"
	for from := range len(s) + 1 {
		for n := range len(s) - from + 1 {
			for _, sizes := range waysToRead(n) {
				whole, other := octets.NewReader(s), octets.NewReader(s)
				wantTake(t, whole, from, s[:from])
				wantTake(t, other, from, s[:from])
				part := mustPart(t, other, n)
				if part.Place() != whole.Place() {
					t.Errorf("a part from %d on begins at %d", from, part.Place())
				}
				inner := mustPart(t, mustPart(t, octets.NewReader(s), len(s)), from+n)
				wantTake(t, inner, from, s[:from])
				want := askAll(whole, sizes)
				if got := askAll(part, sizes); !sameAnswers(got, want) {
					t.Errorf("from %d, %d bytes, by %v: %v of the part, %v of the whole", from, n, sizes, got, want)
				}
				if got := askAll(inner, sizes); !sameAnswers(got, want) {
					t.Errorf("from %d, %d bytes, by %v: %v of a part's part, %v of the whole", from, n, sizes, got, want)
				}
			}
		}
	}
}

func TestTheSameCallsAnswerTheSame(t *testing.T) {
	sizes := []int{0, 2, -1, 9, 0, 1, 0, 1, -3}
	a, b := askAll(octets.NewReader("abcde"), sizes), askAll(octets.NewReader("abcde"), sizes)
	if !sameAnswers(a, b) {
		t.Errorf("%v, then %v", a, b)
	}
}

func TestWhatWasWrittenIsReadBack(t *testing.T) {
	pieces := []string{"a", "", "bc", "\x00", "\xff\xfe\xfd", "", "d", strings.Repeat("long", 300), allBytes()}
	w := octets.NewWriter()
	for _, p := range pieces {
		if len(p) == 1 {
			w.Byte(p[0])
		} else {
			w.Put(p)
		}
	}
	r, parts := octets.NewReader(w.Text()), octets.NewReader(w.Text())
	for _, p := range pieces {
		q := mustPart(t, parts, len(p))
		if len(p) == 1 {
			wantByte(t, r, p[0])
			wantByte(t, q, p[0])
		} else {
			wantTake(t, r, len(p), p)
			wantTake(t, q, len(p), p)
		}
		if r.Place() != q.Place() || r.Place() != parts.Place() {
			t.Errorf("behind %q: places %d, %d, %d", p, r.Place(), q.Place(), parts.Place())
		}
	}
	for _, e := range []*octets.Reader{r, parts} {
		if err := e.End(); err != nil {
			t.Error("more is read than was written:", err)
		}
	}
	wantAt(t, "all was read", r, w.Len(), 0)
}
