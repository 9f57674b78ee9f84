package leb_test

import (
	"math"
	"math/big"
	"strings"
	"testing"

	"colloquy/api"
	"colloquy/faults"
	"colloquy/leb"
	"colloquy/octets"
)

func wantPlace(t *testing.T, what string, r *octets.Reader, place int) {
	t.Helper()
	if r.Place() != place {
		t.Errorf("%s: the place is %d, but %d is asked for", what, r.Place(), place)
	}
}

// wantRead asks that a number is read.
func wantRead[N int | int64 | uint64](t *testing.T, what string, read func(*octets.Reader) (N, error), r *octets.Reader, n N) {
	t.Helper()
	if got, err := read(r); got != n || err != nil {
		t.Errorf("%s: %d, %v, but %d is asked for", what, got, err, n)
	}
}

// wantFault asks that none is read, but that there is a fault of that code and place.
func wantFault[N int | int64 | uint64](t *testing.T, what string, read func(*octets.Reader) (N, error), r *octets.Reader, code api.Errno, at int) {
	t.Helper()
	n, err := read(r)
	if wrong := faults.Unlike(err, code, at); wrong != "" {
		t.Errorf("%s: %s", what, wrong)
	}
	if n != 0 {
		t.Errorf("%s: %d beside a fault", what, n)
	}
}

// small is Small, most being told.
func small(most int) func(*octets.Reader) (int, error) {
	return func(r *octets.Reader) (int, error) { return leb.Small(r, most) }
}

func wantU(t *testing.T, r *octets.Reader, n uint64) {
	t.Helper()
	wantRead(t, "U", leb.U, r, n)
}

func wantS(t *testing.T, r *octets.Reader, n int64) {
	t.Helper()
	wantRead(t, "S", leb.S, r, n)
}

func wantSmall(t *testing.T, r *octets.Reader, most, n int) {
	t.Helper()
	wantRead(t, "Small", small(most), r, n)
}

func wantNoU(t *testing.T, r *octets.Reader, code api.Errno, at int) {
	t.Helper()
	wantFault(t, "U", leb.U, r, code, at)
}

func wantNoS(t *testing.T, r *octets.Reader, code api.Errno, at int) {
	t.Helper()
	wantFault(t, "S", leb.S, r, code, at)
}

func wantNoSmall(t *testing.T, r *octets.Reader, most int, code api.Errno, at int) {
	t.Helper()
	wantFault(t, "Small", small(most), r, code, at)
}

// bytesOfU are the bytes that PutU lays.
func bytesOfU(n uint64) string {
	w := octets.NewWriter()
	leb.PutU(w, n)
	return w.Text()
}

func bytesOfS(n int64) string {
	w := octets.NewWriter()
	leb.PutS(w, n)
	return w.Text()
}

// numbers are numbers of all lengths: around each power of two, and each of the first ones.
func numbers() []uint64 {
	var ns []uint64
	for n := range uint64(1 << 15) {
		ns = append(ns, n)
	}
	for bit := range 64 {
		power := uint64(1) << bit
		for near := range uint64(5) {
			ns = append(ns, power-2+near, ^power+near, power|power>>1|near)
		}
	}
	return append(ns, 0x0123456789abcdef, 0xfedcba9876543210, 0x5555555555555555, 0xaaaaaaaaaaaaaaaa)
}

// known are numbers, each with its bytes, worked out by hand.
func known() map[uint64]string {
	return map[uint64]string{
		0:                  "\x00",
		1:                  "\x01",
		2:                  "\x02",
		63:                 "\x3f",
		64:                 "\x40",
		127:                "\x7f",
		128:                "\x80\x01",
		129:                "\x81\x01",
		255:                "\xff\x01",
		256:                "\x80\x02",
		300:                "\xac\x02",
		16383:              "\xff\x7f",
		16384:              "\x80\x80\x01",
		65536:              "\x80\x80\x04",
		1<<32 - 1:          "\xff\xff\xff\xff\x0f",
		1<<56 - 1:          "\xff\xff\xff\xff\xff\xff\xff\x7f",
		1 << 56:            "\x80\x80\x80\x80\x80\x80\x80\x80\x01",
		1<<63 - 1:          "\xff\xff\xff\xff\xff\xff\xff\xff\x7f",
		1 << 63:            "\x80\x80\x80\x80\x80\x80\x80\x80\x80\x01",
		1<<63 + 1:          "\x81\x80\x80\x80\x80\x80\x80\x80\x80\x01",
		math.MaxUint64 - 1: "\xfe\xff\xff\xff\xff\xff\xff\xff\xff\x01",
		math.MaxUint64:     "\xff\xff\xff\xff\xff\xff\xff\xff\xff\x01",
	}
}

// knownWhole are whole numbers, each with the bytes of its fold, worked out by hand.
func knownWhole() map[int64]string {
	return map[int64]string{
		0:                 "\x00",
		-1:                "\x01",
		1:                 "\x02",
		-2:                "\x03",
		2:                 "\x04",
		63:                "\x7e",
		-64:               "\x7f",
		64:                "\x80\x01",
		-65:               "\x81\x01",
		150:               "\xac\x02",
		-151:              "\xad\x02",
		1<<62 - 1:         "\xfe\xff\xff\xff\xff\xff\xff\xff\x7f",
		-1 << 62:          "\xff\xff\xff\xff\xff\xff\xff\xff\x7f",
		1 << 62:           "\x80\x80\x80\x80\x80\x80\x80\x80\x80\x01",
		math.MaxInt64:     "\xfe\xff\xff\xff\xff\xff\xff\xff\xff\x01",
		math.MinInt64 + 1: "\xfd\xff\xff\xff\xff\xff\xff\xff\xff\x01",
		math.MinInt64:     "\xff\xff\xff\xff\xff\xff\xff\xff\xff\x01",
	}
}

// P2.1

func TestPutULaysTheSevens(t *testing.T) {
	for n, want := range known() {
		if got := bytesOfU(n); got != want {
			t.Errorf("PutU(%d): % x, but % x is asked for", n, got, want)
		}
	}
}

func TestPutSLaysTheFoldsSevens(t *testing.T) {
	for n, want := range knownWhole() {
		if got := bytesOfS(n); got != want {
			t.Errorf("PutS(%d): % x, but % x is asked for", n, got, want)
		}
	}
}

// The bytes, as the document tells them: digits to the base 128, the lowest one first, 128 added to each but the last one.
func TestPutUIsToldByItsDigits(t *testing.T) {
	for _, n := range numbers() {
		left, want := new(big.Int).SetUint64(n), []byte{}
		for {
			digit := new(big.Int)
			left.QuoRem(left, big.NewInt(128), digit)
			want = append(want, byte(digit.Int64()))
			if left.Sign() == 0 {
				break
			}
			want[len(want)-1] += 128
		}
		if got := bytesOfU(n); got != string(want) {
			t.Fatalf("PutU(%d): % x, but % x is asked for", n, got, want)
		}
	}
}

// The fold, as the document tells it, in numbers that do not go round.
func TestPutSIsPutUOfTheFold(t *testing.T) {
	for _, u := range numbers() {
		n := int64(u)
		fold := new(big.Int).Mul(big.NewInt(n), big.NewInt(2))
		if n < 0 {
			fold.Neg(fold).Sub(fold, big.NewInt(1))
		}
		if got, want := bytesOfS(n), bytesOfU(fold.Uint64()); !fold.IsUint64() || got != want {
			t.Fatalf("PutS(%d): % x, but % x is asked for", n, got, want)
		}
	}
}

func TestPutStandsBehindTheWritersBytes(t *testing.T) {
	w := octets.NewWriter()
	w.Put("ab")
	leb.PutU(w, 300)
	w.Byte('c')
	leb.PutS(w, -2)
	leb.PutU(w, 0)
	if got := w.Text(); got != "ab\xac\x02c\x03\x00" || w.Len() != 7 {
		t.Errorf("% x, of %d bytes", got, w.Len())
	}
}

func TestAWriterThatIsNone(t *testing.T) {
	var w *octets.Writer
	for n := range known() {
		leb.PutU(w, n)
	}
	for n := range knownWhole() {
		leb.PutS(w, n)
	}
	if w.Len() != 0 || w.Text() != "" {
		t.Error("something was laid nowhere")
	}
}

func TestAWriterThatNobodyMade(t *testing.T) {
	w := new(octets.Writer)
	leb.PutU(w, 128)
	leb.PutS(w, -1)
	if got := w.Text(); got != "\x80\x01\x01" {
		t.Errorf("% x", got)
	}
}

// P2.2

func TestExamplesOfU(t *testing.T) {
	for s, n := range map[string]uint64{"\x00": 0, "\x7f": 127, "\x80\x01": 128, "\xac\x02": 300} {
		wantU(t, octets.NewReader(s), n)
	}
	wantNoU(t, octets.NewReader("\x80\x00"), api.ErrForm, 0)
	wantNoU(t, octets.NewReader(strings.Repeat("\xff", 10)), api.ErrForm, 0)
	wantNoU(t, octets.NewReader("\x81"), api.ErrShort, 1)
}

func TestExamplesOfSAndSmall(t *testing.T) {
	wantS(t, octets.NewReader("\x03"), -2)
	wantS(t, octets.NewReader("\x04"), 2)
	wantNoSmall(t, octets.NewReader("\x05"), 4, api.ErrLong, 0)
}

func TestUReadsWhatIsKnown(t *testing.T) {
	for n, s := range known() {
		r := octets.NewReader(s + "\x05")
		wantU(t, r, n)
		wantPlace(t, "behind a number", r, len(s))
		wantU(t, r, 5)
	}
}

func TestSReadsWhatIsKnown(t *testing.T) {
	for n, s := range knownWhole() {
		r := octets.NewReader(s + "\x05")
		wantS(t, r, n)
		wantPlace(t, "behind a whole number", r, len(s))
		wantS(t, r, -3)
	}
}

// wrongBytes are bytes that are wrong, with how many of them are taken.
func wrongBytes() map[string]int {
	nine, ten := strings.Repeat("\x80", 9), strings.Repeat("\xff", 10)
	return map[string]int{
		"\x80\x00":                 2,
		"\xff\x00":                 2,
		"\x80\x00\x01":             2,
		"\x81\x00\x00":             2,
		"\x80\x80\x00":             3,
		"\xff\xff\x00\x07":         3,
		nine + "\x00":              10,
		nine + "\x02":              10,
		nine + "\x03":              10,
		nine + "\x7f":              10,
		nine + "\x80":              10,
		nine + "\x81":              10,
		nine + "\x81\x00":          10,
		nine + "\x80\x01":          10,
		ten:                        10,
		ten[:9] + "\x02":           10,
		ten[:9] + "\x00":           10,
		ten + "\x01":               10,
		ten + "\xff\xff\x01":       10,
		ten[:8] + "\x00":           9,
		ten[:8] + "\x00\x01":       9,
		"\x81" + nine[1:] + "\x02": 10,
	}
}

func TestWrongBytes(t *testing.T) {
	for s, taken := range wrongBytes() {
		r := octets.NewReader(s)
		wantNoU(t, r, api.ErrForm, 0)
		wantPlace(t, "behind wrong bytes", r, taken)
		r = octets.NewReader(s)
		wantNoS(t, r, api.ErrForm, 0)
		wantPlace(t, "behind wrong bytes", r, taken)
		for _, most := range []int{-1, 0, 5, 127, math.MaxInt, math.MinInt} {
			r = octets.NewReader(s)
			wantNoSmall(t, r, most, api.ErrForm, 0)
			wantPlace(t, "behind wrong bytes", r, taken)
		}
	}
}

func TestWrongBytesStandSomewhere(t *testing.T) {
	for s, taken := range wrongBytes() {
		r := octets.NewReader("abc" + s + "\x2a")
		if _, err := r.Take(3); err != nil {
			t.Fatal(err)
		}
		wantNoU(t, r, api.ErrForm, 3)
		wantPlace(t, "behind wrong bytes", r, 3+taken)
		if _, err := r.Take(len(s) - taken); err != nil {
			t.Fatal(err)
		}
		wantU(t, r, 42)
	}
}

// What follows the ten bytes that were taken is a number of its own.
func TestBehindTen(t *testing.T) {
	r := octets.NewReader(strings.Repeat("\x80", 10) + "\x01")
	wantNoU(t, r, api.ErrForm, 0)
	wantU(t, r, 1)
	wantNoU(t, r, api.ErrShort, 11)
	r = octets.NewReader(strings.Repeat("\xff", 25))
	wantNoU(t, r, api.ErrForm, 0)
	wantNoS(t, r, api.ErrForm, 10)
	wantNoSmall(t, r, 9, api.ErrShort, 25)
	wantPlace(t, "at the end", r, 25)
}

func TestTheTenthByte(t *testing.T) {
	nine := strings.Repeat("\xff", 9)
	for b := range 256 {
		r := octets.NewReader(nine + string([]byte{byte(b)}))
		if b == 1 {
			wantU(t, r, math.MaxUint64)
		} else {
			wantNoU(t, r, api.ErrForm, 0)
		}
		wantPlace(t, "behind ten", r, 10)
	}
}

// The ninth byte is none of the tenth: it may be above 1.
func TestTheNinthByte(t *testing.T) {
	for b := range 128 {
		r := octets.NewReader(strings.Repeat("\x80", 8) + string([]byte{byte(b)}))
		if b == 0 {
			wantNoU(t, r, api.ErrForm, 0)
		} else {
			wantU(t, r, uint64(b)<<56)
		}
		wantPlace(t, "behind nine", r, 9)
	}
}

func TestBytesEndBeforeTheNumber(t *testing.T) {
	for long := range 10 {
		for _, b := range []string{"\x80", "\x81", "\xff"} {
			s := strings.Repeat(b, long)
			r := octets.NewReader(s)
			wantNoU(t, r, api.ErrShort, long)
			wantPlace(t, "at the end", r, long)
			r = octets.NewReader(s)
			wantNoS(t, r, api.ErrShort, long)
			wantPlace(t, "at the end", r, long)
			for _, most := range []int{-1, 0, 4} {
				r = octets.NewReader(s)
				wantNoSmall(t, r, most, api.ErrShort, long)
				wantPlace(t, "at the end", r, long)
			}
		}
	}
}

// part is a reader of s, which stands in a whole of other bytes, from 5 on.
func part(t *testing.T, s string) *octets.Reader {
	t.Helper()
	r := octets.NewReader("\x01\x80\xff\x00\x07" + s + "\x01\x01\x01")
	_, err := r.Take(5)
	p, bad := r.Part(len(s))
	if err != nil || bad != nil {
		t.Fatal(err, bad)
	}
	return p
}

func TestInAPart(t *testing.T) {
	p := part(t, "\x07\x81")
	wantU(t, p, 7)
	wantNoU(t, p, api.ErrShort, 7)
	wantPlace(t, "at the part's end", p, 7)
	p = part(t, "\x07\x81")
	wantS(t, p, -4)
	wantNoS(t, p, api.ErrShort, 7)
	p = part(t, "\x07\x81")
	wantSmall(t, p, 7, 7)
	wantNoSmall(t, p, 7, api.ErrShort, 7)
	p = part(t, "")
	wantNoU(t, p, api.ErrShort, 5)
}

func TestFaultsInAPart(t *testing.T) {
	p := part(t, "\x07\x81\x00\xac\x02\x06")
	wantU(t, p, 7)
	wantNoU(t, p, api.ErrForm, 6)
	wantPlace(t, "behind wrong bytes", p, 8)
	wantNoSmall(t, p, 299, api.ErrLong, 8)
	wantPlace(t, "behind a number that is too great", p, 10)
	wantS(t, p, 3)
	wantNoS(t, p, api.ErrShort, 11)
}

func TestSmallAroundMost(t *testing.T) {
	for _, most := range []int{0, 1, 126, 127, 128, 129, 300, 16383, 16384, 65536, math.MaxInt32, math.MaxInt - 1, math.MaxInt} {
		just, above := bytesOfU(uint64(most)), bytesOfU(uint64(most)+1)
		r := octets.NewReader(just + above + "\x00")
		wantSmall(t, r, most, most)
		wantNoSmall(t, r, most, api.ErrLong, len(just))
		wantPlace(t, "behind both", r, len(just)+len(above))
		wantSmall(t, r, most, 0)
		if most > 0 {
			r = octets.NewReader(just + just)
			wantNoSmall(t, r, most-1, api.ErrLong, 0)
			wantPlace(t, "behind the first one", r, len(just))
			wantSmall(t, r, math.MaxInt, most)
		}
	}
}

func TestSmallWithMostBelowNothing(t *testing.T) {
	for n, s := range known() {
		for _, most := range []int{-1, -2, -128, math.MinInt32, math.MinInt} {
			r := octets.NewReader("\x00" + s + "\x00")
			wantSmall(t, r, 0, 0)
			wantNoSmall(t, r, most, api.ErrLong, 1)
			wantPlace(t, "behind a number", r, 1+len(s))
			if t.Failed() {
				t.Fatal(n, most)
			}
		}
	}
}

func TestSmallOfNumbersThatNoIntHas(t *testing.T) {
	for _, n := range []uint64{1 << 63, 1<<63 + 5, math.MaxUint64} {
		r := octets.NewReader(bytesOfU(n))
		wantNoSmall(t, r, math.MaxInt, api.ErrLong, 0)
		wantPlace(t, "behind ten", r, 10)
	}
}

func TestAReaderThatIsNone(t *testing.T) {
	wantNoU(t, nil, api.ErrNil, 0)
	wantNoS(t, nil, api.ErrNil, 0)
	for _, most := range []int{-1, 0, 1, math.MaxInt} {
		wantNoSmall(t, nil, most, api.ErrNil, 0)
	}
}

func TestAReaderThatNobodyMade(t *testing.T) {
	wantNoU(t, new(octets.Reader), api.ErrShort, 0)
	wantNoS(t, new(octets.Reader), api.ErrShort, 0)
	wantNoSmall(t, new(octets.Reader), 3, api.ErrShort, 0)
}

// P2.3

func TestNumbersAreReadBack(t *testing.T) {
	for _, n := range numbers() {
		r := octets.NewReader(bytesOfU(n) + bytesOfS(int64(n)))
		wantU(t, r, n)
		wantS(t, r, int64(n))
		if err := r.End(); err != nil {
			t.Error(err)
		}
		small := octets.NewReader(bytesOfU(n))
		if n > math.MaxInt {
			wantNoSmall(t, small, math.MaxInt, api.ErrLong, 0)
		} else {
			wantSmall(t, small, math.MaxInt, int(n))
		}
		if t.Failed() {
			t.Fatal("number ", n)
		}
	}
}

func TestOneBehindTheOther(t *testing.T) {
	w, ns := octets.NewWriter(), numbers()
	for i, n := range ns {
		if i%2 == 0 {
			leb.PutU(w, n)
		} else {
			leb.PutS(w, int64(n))
		}
	}
	r := octets.NewReader(w.Text())
	for i, n := range ns {
		if i%2 == 0 {
			wantU(t, r, n)
		} else {
			wantS(t, r, int64(n))
		}
		if t.Failed() {
			t.Fatal("number ", i)
		}
	}
	if err := r.End(); err != nil {
		t.Error(err)
	}
	wantNoU(t, r, api.ErrShort, w.Len())
}

// take tells, by the document's words, what U makes of bytes: a number or a fault, and how many are taken.
func take(s string) (n *big.Int, code api.Errno, at, taken int) {
	n = new(big.Int)
	for taken = 0; taken < 10; {
		if taken == len(s) {
			return nil, api.ErrShort, taken, taken
		}
		b := s[taken]
		n.Add(n, new(big.Int).Lsh(big.NewInt(int64(b&127)), uint(7*taken)))
		taken++
		if b < 128 {
			break
		}
	}
	last := s[taken-1]
	if last >= 128 || taken == 10 && last > 1 || taken > 1 && last == 0 {
		return nil, api.ErrForm, 0, taken
	}
	return n, api.OK, 0, taken
}

// wantAsTold holds U of some bytes against what the document tells, and bytes that are read against those that are laid.
func wantAsTold(t *testing.T, s string) {
	t.Helper()
	r := octets.NewReader(s)
	n, code, at, taken := take(s)
	if code != api.OK {
		wantNoU(t, r, code, at)
	} else if !n.IsUint64() {
		t.Errorf("% x is no number", s)
	} else {
		wantU(t, r, n.Uint64())
		if laid := bytesOfU(n.Uint64()); laid != s[:taken] {
			t.Errorf("%d is read from % x, but its bytes are % x", n, s[:taken], laid)
		}
	}
	wantPlace(t, "behind what was taken", r, taken)
	if t.Failed() {
		t.Fatalf("of % x", s)
	}
}

func TestOnlyItsOwnBytesAreRead(t *testing.T) {
	for a := range 256 {
		wantAsTold(t, string([]byte{byte(a)}))
		for b := range 256 {
			wantAsTold(t, string([]byte{byte(a), byte(b)}))
			for _, c := range []byte{0, 1, 2, 127, 128, 255} {
				wantAsTold(t, string([]byte{byte(a), byte(b), c}))
			}
		}
	}
}

func TestOnlyItsOwnBytesAreReadOfManySevens(t *testing.T) {
	picked := []byte{0, 1, 2, 64, 127, 128, 129, 255}
	for long := 3; long < 12; long++ {
		for _, a := range picked {
			for _, b := range picked {
				for _, c := range picked {
					bytes := []byte(strings.Repeat(string([]byte{a | 128}), long))
					bytes[long-3], bytes[long-2], bytes[long-1] = a, b, c
					wantAsTold(t, string(bytes))
				}
			}
		}
	}
}
