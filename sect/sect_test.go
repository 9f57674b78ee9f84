package sect_test

import (
	"math"
	"strings"
	"testing"

	"colloquy/api"
	"colloquy/faults"
	"colloquy/octets"
	"colloquy/sect"
)

const (
	head = "CLQY\x01"
	m    = head + "\x01\x01a" + "\x02\x00" + "\x03\x02bc"
)

// laid are a number's bytes, by the words of the document.
func laid(n int) string {
	var bytes []byte
	for ; n >= 128; n /= 128 {
		bytes = append(bytes, byte(n%128+128))
	}
	return string(append(bytes, byte(n)))
}

// section is the section with that number, and that text.
func section(number int, text string) string {
	return string([]byte{byte(number)}) + laid(len(text)) + text
}

// whole are a module's bytes, by the words of the document.
func whole(texts [3]string) string {
	return head + section(1, texts[0]) + section(2, texts[1]) + section(3, texts[2])
}

// upTo are a module's bytes up to what stands ahead of the section with that number.
func upTo(number int, texts [3]string) string {
	b := head
	for before := 1; before < number; before++ {
		b += section(before, texts[before-1])
	}
	return b
}

// behind are the sections behind the one with that number.
func behind(number int, texts [3]string) string {
	b := ""
	for after := number + 1; after <= 3; after++ {
		b += section(after, texts[after-1])
	}
	return b
}

// mustSplit answers the readers of bytes that are a module's.
func mustSplit(t *testing.T, b string) [3]*octets.Reader {
	t.Helper()
	readers, err := sect.Split(b)
	if err != nil {
		t.Fatalf("Split of %s: %v", short(b), err)
	}
	for i, r := range readers {
		if r == nil {
			t.Fatalf("Split of %s: no reader of section %d", short(b), i+1)
		}
	}
	return readers
}

// wantSplit asks for readers of these texts, which begin at these places.
func wantSplit(t *testing.T, b string, texts [3]string, places [3]int) {
	t.Helper()
	for i, r := range mustSplit(t, b) {
		if r.Place() != places[i] || r.Left() != len(texts[i]) {
			t.Errorf("%s, section %d: at %d, %d bytes, but %d and %d are asked for", short(b), i+1, r.Place(), r.Left(), places[i], len(texts[i]))
		}
		got, err := r.Take(len(texts[i]))
		if got != texts[i] || err != nil {
			t.Errorf("%s, section %d: %s, %v, but %s is asked for", short(b), i+1, short(got), err, short(texts[i]))
		}
		if err := r.End(); err != nil {
			t.Errorf("%s, section %d: more than its text: %v", short(b), i+1, err)
		}
	}
}

// wantNoSplit asks for that fault, and no reader.
func wantNoSplit(t *testing.T, b string, code api.Errno, at int) {
	t.Helper()
	readers, err := sect.Split(b)
	if wrong := faults.Unlike(err, code, at); wrong != "" {
		t.Errorf("Split of %s: %s", short(b), wrong)
	}
	if readers != [3]*octets.Reader{} {
		t.Errorf("Split of %s: readers beside a fault", short(b))
	}
}

func wantJoin(t *testing.T, texts [3]string, want string) {
	t.Helper()
	if got, e := sect.Join(texts); got != want || e != api.OK {
		t.Errorf("Join: %s, %d, but %s is asked for", short(got), e, short(want))
	}
}

func wantNoJoin(t *testing.T, texts [3]string) {
	t.Helper()
	if got, e := sect.Join(texts); got != "" || e != api.ErrLong {
		t.Errorf("Join: %s, %d, but ErrLong alone is asked for", short(got), e)
	}
}

// short is a text's beginning in hexadecimal, as long ones are no help to who reads.
func short(s string) string {
	const digits = "0123456789abcdef"
	var out strings.Builder
	for i := range min(len(s), 40) {
		out.WriteString(digits[s[i]/16:][:1] + digits[s[i]%16:][:1] + " ")
	}
	if len(s) > 40 {
		out.WriteString("..")
	}
	return "[" + out.String() + "]"
}

// manyTexts are texts of all sorts: empty ones, such that look like heads, numbers and sections, and long ones.
func manyTexts() [][3]string {
	long := strings.Repeat("\x01\x80z", 100)
	return [][3]string{
		{},
		{"a", "", "bc"},
		{"", "", "x"},
		{"", "y", ""},
		{"z", "", ""},
		{"\x00", "\x00\x00", "\x00\x00\x00"},
		{"\xff", "\x80", "\x80\x80"},
		{head, m, "\x01"},
		{"\x02\x00\x03\x00", "\x03\x00", "\x01\x00\x02\x00\x03\x00"},
		{"\x01\x00", "\x04\x01\x00\x01\x18", "\x00\x01\x00\x00"},
		{strings.Repeat("a", 127), strings.Repeat("b", 128), strings.Repeat("c", 129)},
		{long, long + "q", "q" + long},
		{strings.Repeat("p", 16383), strings.Repeat("q", 16384), strings.Repeat("r", 65535)},
	}
}

// P3.1

func TestExamplesOfSplit(t *testing.T) {
	wantSplit(t, m, [3]string{"a", "", "bc"}, [3]int{7, 10, 12})
	wantNoSplit(t, "", api.ErrMagic, 0)
	wantNoSplit(t, "CLQX", api.ErrMagic, 3)
	wantNoSplit(t, head, api.ErrShort, 5)
	wantNoSplit(t, m+"\x00", api.ErrLong, 14)
	wantNoSplit(t, head+"\x02\x00", api.ErrKind, 5)
	wantNoSplit(t, head+"\x01\x05a", api.ErrShort, 7)
}

// The bytes are those of the document's third example of the whole.
func TestAnOrdinaryModule(t *testing.T) {
	b := "CLQY\x01" + "\x01\x02\x01\x00" + "\x02\x04\x01\x00\x01\x18" + "\x03\x04\x00\x01\x00\x00"
	wantSplit(t, b, [3]string{"\x01\x00", "\x01\x00\x01\x18", "\x00\x01\x00\x00"}, [3]int{7, 11, 17})
}

func TestAModuleWithoutAnything(t *testing.T) {
	wantSplit(t, head+"\x01\x01\x00\x02\x01\x00\x03\x02\x00\x00", [3]string{"\x00", "\x00", "\x00\x00"}, [3]int{7, 10, 13})
	wantSplit(t, head+"\x01\x00\x02\x00\x03\x00", [3]string{}, [3]int{7, 9, 11})
}

func TestEachByteOfTheHeadIsLacking(t *testing.T) {
	for i := range len(head) {
		wantNoSplit(t, head[:i], api.ErrMagic, i)
	}
}

func TestEachByteOfTheHeadIsAnotherOne(t *testing.T) {
	for i := range len(head) {
		for b := range 256 {
			if byte(b) == head[i] {
				continue
			}
			other := string([]byte{byte(b)})
			wantNoSplit(t, head[:i]+other, api.ErrMagic, i)
			wantNoSplit(t, head[:i]+other+m[i+1:], api.ErrMagic, i)
			wantNoSplit(t, head[:i]+other+"\x00\x00\x00\x00\x00", api.ErrMagic, i)
		}
	}
}

// A byte of the head that stands a place too early, or too late, is another one there.
func TestTheHeadIsOutOfPlace(t *testing.T) {
	wantNoSplit(t, "\x00"+m, api.ErrMagic, 0)
	wantNoSplit(t, "LQY\x01", api.ErrMagic, 0)
	wantNoSplit(t, "CCLQY\x01", api.ErrMagic, 1)
	wantNoSplit(t, "CLY\x01", api.ErrMagic, 2)
	wantNoSplit(t, "CLQ\x01", api.ErrMagic, 3)
	wantNoSplit(t, "clqy\x01", api.ErrMagic, 0)
	wantNoSplit(t, "CLQY1", api.ErrMagic, 4)
	wantNoSplit(t, "CLQY\x02"+m[5:], api.ErrMagic, 4)
}

func TestASectionsNumberIsLacking(t *testing.T) {
	for _, texts := range manyTexts() {
		for number := 1; number <= 3; number++ {
			b := upTo(number, texts)
			wantNoSplit(t, b, api.ErrShort, len(b))
		}
	}
}

func TestASectionsNumberIsAnotherOne(t *testing.T) {
	texts := [3]string{"ab", "c", "def"}
	for number := 1; number <= 3; number++ {
		b := upTo(number, texts)
		for other := range 256 {
			if other == number {
				continue
			}
			wantNoSplit(t, b+section(other, texts[number-1])+behind(number, texts), api.ErrKind, len(b))
			wantNoSplit(t, b+string([]byte{byte(other)}), api.ErrKind, len(b))
		}
	}
}

func TestSectionsInAnotherOrder(t *testing.T) {
	one, two, three := section(1, "a"), section(2, "bc"), section(3, "def")
	wantNoSplit(t, head+two+one+three, api.ErrKind, 5)
	wantNoSplit(t, head+three+two+one, api.ErrKind, 5)
	wantNoSplit(t, head+one+three+two, api.ErrKind, 8)
	wantNoSplit(t, head+one+one+two+three, api.ErrKind, 8)
	wantNoSplit(t, head+one+two+two, api.ErrKind, 12)
	wantNoSplit(t, head+one+three, api.ErrKind, 8)
}

func TestALengthIsLacking(t *testing.T) {
	texts := [3]string{"ab", "c", "def"}
	for number := 1; number <= 3; number++ {
		b := upTo(number, texts) + string([]byte{byte(number)})
		for long := range 10 {
			early := b + strings.Repeat("\x81", long)
			wantNoSplit(t, early, api.ErrShort, len(early))
		}
	}
}

func TestALengthIsNotLaidInTheOneWay(t *testing.T) {
	texts := [3]string{"ab", "c", "def"}
	for number := 1; number <= 3; number++ {
		b := upTo(number, texts) + string([]byte{byte(number)})
		for _, bytes := range []string{
			"\x80\x00", "\x81\x00", "\x81\x80\x00", "\xff\x00", strings.Repeat("\xff", 10), strings.Repeat("\x80", 10) + "\x01",
			strings.Repeat("\xff", 9) + "\x02", strings.Repeat("\x80", 9) + "\x00", strings.Repeat("\x81", 12),
		} {
			wantNoSplit(t, b+bytes, api.ErrForm, len(b))
			wantNoSplit(t, b+bytes+texts[number-1]+behind(number, texts), api.ErrForm, len(b))
		}
	}
}

func TestALengthIsAboveMaxBytes(t *testing.T) {
	texts := [3]string{"ab", "c", "def"}
	for number := 1; number <= 3; number++ {
		b := upTo(number, texts) + string([]byte{byte(number)})
		for _, n := range []int{api.MaxBytes + 1, api.MaxBytes + 2, 2 * api.MaxBytes, math.MaxInt32, math.MaxInt32 + 1, 1 << 32, 1<<32 + 1, math.MaxInt} {
			wantNoSplit(t, b+laid(n), api.ErrLong, len(b))
			wantNoSplit(t, b+laid(n)+texts[number-1]+behind(number, texts), api.ErrLong, len(b))
		}
		wantNoSplit(t, b+laid(api.MaxBytes+1)+strings.Repeat("x", api.MaxBytes+1)+behind(number, texts), api.ErrLong, len(b))
		for _, high := range []string{"\x01", "\x01z"} {
			wantNoSplit(t, b+strings.Repeat("\x80", 9)+high, api.ErrLong, len(b))
			wantNoSplit(t, b+strings.Repeat("\xff", 9)+high, api.ErrLong, len(b))
		}
	}
}

func TestALengthIsJustMaxBytes(t *testing.T) {
	texts := [3]string{"ab", "c", "def"}
	for number := 1; number <= 3; number++ {
		b := upTo(number, texts) + string([]byte{byte(number)}) + "\x80\x80\x04"
		wantNoSplit(t, b, api.ErrShort, len(b))
		wantNoSplit(t, b+strings.Repeat("x", api.MaxBytes-1), api.ErrShort, len(b))
		most := texts
		most[number-1] = strings.Repeat("x", api.MaxBytes)
		b += most[number-1] + behind(number, texts)
		if b != whole(most) {
			t.Fatal("the bytes are not those of MaxBytes")
		}
		wantSplit(t, b, most, beginnings(most))
	}
}

// beginnings are the places of the texts in a module's bytes.
func beginnings(texts [3]string) [3]int {
	var places [3]int
	at := len(head)
	for i, text := range texts {
		places[i] = at + 1 + len(laid(len(text)))
		at = places[i] + len(text)
	}
	return places
}

func TestATextHasTooFewBytes(t *testing.T) {
	for _, texts := range manyTexts() {
		for number := 1; number <= 3; number++ {
			long := len(texts[number-1])
			b := upTo(number, texts) + string([]byte{byte(number)}) + laid(long)
			for _, left := range []int{0, 1, long / 2, long - 1} {
				if 0 <= left && left < long {
					wantNoSplit(t, b+texts[number-1][:left], api.ErrShort, len(b))
				}
			}
		}
	}
}

// What is behind a text counts for its bytes: only those behind all may be too few.
func TestALengthIsOneTooGreat(t *testing.T) {
	wantNoSplit(t, head+"\x01\x02a"+"\x02\x00"+"\x03\x02bc", api.ErrKind, 9)
	wantNoSplit(t, head+"\x01\x01a"+"\x02\x01"+"\x03\x02bc", api.ErrKind, 11)
	wantNoSplit(t, head+"\x01\x01a"+"\x02\x00"+"\x03\x03bc", api.ErrShort, 12)
	wantNoSplit(t, head+"\x01\x00a"+"\x02\x00"+"\x03\x02bc", api.ErrKind, 7)
	wantNoSplit(t, head+"\x01\x01a"+"\x02\x00"+"\x03\x01bc", api.ErrLong, 13)
}

func TestBytesBehindAll(t *testing.T) {
	for _, texts := range manyTexts() {
		b := whole(texts)
		for _, more := range []string{"\x00", "\x01", "\x04", "\x04\x00", "x", "\xff\xff", head, b, strings.Repeat("y", 1000)} {
			wantNoSplit(t, b+more, api.ErrLong, len(b))
		}
	}
}

func TestTheFirstThatIsMetIsTold(t *testing.T) {
	wantNoSplit(t, "CLXX\x07", api.ErrMagic, 2)
	wantNoSplit(t, "CLQY\x02\x05", api.ErrMagic, 4)
	wantNoSplit(t, head+"\x07\x80\x00", api.ErrKind, 5)
	wantNoSplit(t, head+"\x01\x80\x00"+"\x07", api.ErrForm, 6)
	wantNoSplit(t, head+"\x01\x81\x80\x04"+"a", api.ErrLong, 6)
	wantNoSplit(t, head+"\x01\x81\x80\x04\x02", api.ErrLong, 6)
	wantNoSplit(t, head+"\x01\x09ab", api.ErrShort, 7)
	wantNoSplit(t, head+"\x01\x01a"+"\x03\x09", api.ErrKind, 8)
	wantNoSplit(t, head+"\x01\x01a"+"\x02\x80\x00"+"\x04\x09", api.ErrForm, 9)
	wantNoSplit(t, head+"\x01\x01a"+"\x02\x00"+"\x04\x81\x00", api.ErrKind, 10)
	wantNoSplit(t, head+"\x01\x01a"+"\x02\x00"+"\x03\x80\x00zzz", api.ErrForm, 11)
	wantNoSplit(t, head+"\x01\x01a"+"\x02\x00"+"\x03\x81\x80\x04zzz", api.ErrLong, 11)
}

func TestReadersGoApart(t *testing.T) {
	readers := mustSplit(t, head+section(1, "abc")+section(2, "def")+section(3, "ghi"))
	if got, err := readers[1].Take(2); got != "de" || err != nil {
		t.Error(got, err)
	}
	places := [3]int{7, 14, 17}
	for i, r := range readers {
		if r.Place() != places[i] {
			t.Errorf("section %d is at %d, but %d is asked for", i+1, r.Place(), places[i])
		}
	}
	if got, err := readers[0].Take(3); got != "abc" || err != nil {
		t.Error(got, err)
	}
	if got, err := readers[2].Byte(); got != 'g' || err != nil {
		t.Error(got, err)
	}
}

// The places are told from the beginning of all bytes on, also those of faults in a text.
func TestFaultsInATextHaveTheirPlace(t *testing.T) {
	for _, texts := range manyTexts() {
		places := beginnings(texts)
		for i, r := range mustSplit(t, whole(texts)) {
			long := len(texts[i])
			_, err := r.Take(long + 1)
			if wrong := faults.Unlike(err, api.ErrShort, places[i]); wrong != "" {
				t.Errorf("section %d: %s", i+1, wrong)
			}
			if long > 0 {
				if wrong := faults.Unlike(r.End(), api.ErrLong, places[i]); wrong != "" {
					t.Errorf("section %d: %s", i+1, wrong)
				}
			}
			if _, err := r.Take(long); err != nil {
				t.Error(err)
			}
			_, err = r.Byte()
			if wrong := faults.Unlike(err, api.ErrShort, places[i]+long); wrong != "" {
				t.Errorf("section %d: %s", i+1, wrong)
			}
		}
	}
}

func TestSplitAnswersNewReaders(t *testing.T) {
	first := mustSplit(t, m)
	for _, r := range first {
		if _, err := r.Take(r.Left()); err != nil {
			t.Fatal(err)
		}
	}
	wantSplit(t, m, [3]string{"a", "", "bc"}, [3]int{7, 10, 12})
	_, err := sect.Split("C")
	f, is := err.(*api.Fault)
	if !is {
		t.Fatal(err)
	}
	f.Code, f.At = api.ErrWord, 99
	wantNoSplit(t, "C", api.ErrMagic, 1)
}

// P3.2

func TestJoin(t *testing.T) {
	wantJoin(t, [3]string{"a", "", "bc"}, m)
	wantJoin(t, [3]string{}, head+"\x01\x00\x02\x00\x03\x00")
	wantJoin(t, [3]string{"\x01\x00", "\x01\x00\x01\x18", "\x00\x01\x00\x00"}, "CLQY\x01\x01\x02\x01\x00\x02\x04\x01\x00\x01\x18\x03\x04\x00\x01\x00\x00")
	b, c := strings.Repeat("b", 127), strings.Repeat("c", 300)
	wantJoin(t, [3]string{"", b, c}, head+"\x01\x00"+"\x02\x7f"+b+"\x03\xac\x02"+c)
	for _, texts := range manyTexts() {
		wantJoin(t, texts, whole(texts))
	}
}

func TestJoinOfJustMaxBytes(t *testing.T) {
	most := strings.Repeat("m", api.MaxBytes)
	wantJoin(t, [3]string{most, "", ""}, head+"\x01\x80\x80\x04"+most+"\x02\x00"+"\x03\x00")
	wantJoin(t, [3]string{"", most, ""}, head+"\x01\x00"+"\x02\x80\x80\x04"+most+"\x03\x00")
	wantJoin(t, [3]string{"", "", most}, head+"\x01\x00"+"\x02\x00"+"\x03\x80\x80\x04"+most)
	wantJoin(t, [3]string{most, most, most}, head+"\x01\x80\x80\x04"+most+"\x02\x80\x80\x04"+most+"\x03\x80\x80\x04"+most)
	wantSplit(t, whole([3]string{most, most, most}), [3]string{most, most, most}, beginnings([3]string{most, most, most}))
}

func TestJoinOfMoreThanMaxBytes(t *testing.T) {
	most := strings.Repeat("m", api.MaxBytes)
	for i := range 3 {
		for _, long := range []string{most + "m", most + "mm", most + most} {
			for _, others := range []string{"", "ab", most, long} {
				texts := [3]string{others, others, others}
				texts[i] = long
				wantNoJoin(t, texts)
			}
		}
	}
}

// P3.3

func TestWhatWasJoinedIsSplit(t *testing.T) {
	for _, texts := range manyTexts() {
		b, e := sect.Join(texts)
		if e != api.OK {
			t.Fatal(e)
		}
		wantSplit(t, b, texts, beginnings(texts))
	}
}

func TestEachBeginning(t *testing.T) {
	for _, texts := range manyTexts() {
		b := whole(texts)
		for long := range len(b) {
			if long < 1000 || len(b)-long < 100 || long%997 == 0 {
				wantAsTold(t, b[:long])
			}
		}
		wantAsTold(t, b)
	}
	for long := range len(m) {
		if _, err := sect.Split(m[:long]); err == nil {
			t.Errorf("%s is split, but it is a beginning", short(m[:long]))
		}
	}
}

// told tells, by the document's words, what Split makes of bytes: texts, or a fault.
func told(b string) (texts [3]string, code api.Errno, at int) {
	for at < len(head) {
		if at == len(b) || b[at] != head[at] {
			return [3]string{}, api.ErrMagic, at
		}
		at++
	}
	for i := range texts {
		if at == len(b) {
			return [3]string{}, api.ErrShort, at
		}
		if b[at] != byte(i+1) {
			return [3]string{}, api.ErrKind, at
		}
		n, taken, code := size(b[at+1:])
		if code == api.ErrShort {
			return [3]string{}, code, len(b)
		}
		if code != api.OK {
			return [3]string{}, code, at + 1
		}
		at += 1 + taken
		if n > len(b)-at {
			return [3]string{}, api.ErrShort, at
		}
		texts[i] = b[at : at+n]
		at += n
	}
	if at < len(b) {
		return [3]string{}, api.ErrLong, at
	}
	return texts, api.OK, at
}

// size is the number with which bytes begin, if MaxBytes is the greatest one that may be, and how many bytes it has.
func size(b string) (n, taken int, code api.Errno) {
	isGreat := false
	for taken < 10 {
		if taken == len(b) {
			return 0, 0, api.ErrShort
		}
		seven := int(b[taken] % 128)
		if taken < 4 {
			n += seven << (7 * taken)
		} else {
			isGreat = isGreat || seven > 0
		}
		taken++
		if b[taken-1] < 128 {
			break
		}
	}
	last := b[taken-1]
	switch {
	case last >= 128, taken == 10 && last > 1, taken > 1 && last == 0:
		return 0, 0, api.ErrForm
	case isGreat, n > api.MaxBytes:
		return 0, 0, api.ErrLong
	}
	return n, taken, api.OK
}

// wantAsTold holds Split of some bytes against what the document tells, and bytes that are split against those that are joined.
func wantAsTold(t *testing.T, b string) {
	t.Helper()
	texts, code, at := told(b)
	if code != api.OK {
		wantNoSplit(t, b, code, at)
	} else {
		wantSplit(t, b, texts, beginnings(texts))
		wantJoin(t, texts, b)
	}
	if t.Failed() {
		t.FailNow()
	}
}

func TestWhatIsSplitIsJoined(t *testing.T) {
	for _, texts := range manyTexts() {
		wantAsTold(t, whole(texts))
	}
	for _, b := range []string{
		m, m + m, "", "CLQY", head, head + "\x01\x00\x02\x00", head + "\x01\x80\x00\x02\x00\x03\x00", head + "\x01\x81\x00a\x02\x00\x03\x00",
	} {
		wantAsTold(t, b)
	}
}

func TestEachByteIsEachOtherOne(t *testing.T) {
	for _, texts := range [][3]string{
		{"a", "", "bc"},
		{"", "\x03\x00", "\x00"},
		{"\x01\x00\x02\x00\x03\x00", "\x02\x00\x03\x00", "\x03\x00"},
		{strings.Repeat("\x02", 130), "\x03\x80", strings.Repeat("\x03", 200)},
	} {
		b := []byte(whole(texts))
		for i, was := range b {
			for other := range 256 {
				b[i] = byte(other)
				wantAsTold(t, string(b))
			}
			b[i] = was
		}
	}
}

func TestAByteIsLackingOrThereTwice(t *testing.T) {
	for _, texts := range manyTexts()[:12] {
		b := whole(texts)
		for i := range len(b) {
			wantAsTold(t, b[:i]+b[i+1:])
			wantAsTold(t, b[:i+1]+b[i:])
			wantAsTold(t, b[:i]+"\x80"+b[i:])
		}
	}
}

// All rows of six bytes, of a few ones that count, behind the head.
func TestAllShortRows(t *testing.T) {
	picked := []byte{0, 1, 2, 3, 128, 129}
	rows := []string{""}
	for range 6 {
		var longer []string
		for _, row := range rows {
			wantAsTold(t, head+row)
			for _, b := range picked {
				longer = append(longer, row+string([]byte{b}))
			}
		}
		rows = longer
	}
	found := 0
	for _, row := range rows {
		wantAsTold(t, head+row)
		if _, err := sect.Split(head + row); err == nil {
			found++
		}
	}
	if found != 1 {
		t.Errorf("%d rows of six bytes are sections, but only one is", found)
	}
}

// Ways to tell a section from its end are none: two modules' bytes that begin alike are the same.
func TestNoModuleIsABeginningOfAnother(t *testing.T) {
	var all []string
	for _, a := range []string{"", "\x02\x00", "\x02\x00\x03\x00", "x"} {
		for _, b := range []string{"", "\x03\x00", "\x03\x01", "y"} {
			for _, c := range []string{"", "\x00", "\x03\x00", "z"} {
				joined, e := sect.Join([3]string{a, b, c})
				if e != api.OK {
					t.Fatal(e)
				}
				all = append(all, joined)
			}
		}
	}
	for i, one := range all {
		for j, other := range all {
			if i != j && strings.HasPrefix(other, one) {
				t.Errorf("%s is a beginning of %s", short(one), short(other))
			}
		}
	}
}
