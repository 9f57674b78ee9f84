package module_test

import (
	"math"
	"strings"
	"testing"

	"colloquy/api"
	"colloquy/insn"
	"colloquy/module"
	"colloquy/modules"
	"colloquy/octets"
	"colloquy/sect"
	"colloquy/tables"
)

// wrongNumbers are bytes that are no number's, or not the ones that it has.
func wrongNumbers() []string {
	return []string{
		"\x80\x00", "\x81\x00", "\xff\x80\x00", strings.Repeat("\xff", 10), strings.Repeat("\x80", 11), strings.Repeat("\x80", 9) + "\x02", strings.Repeat("\x80", 9) + "\x00",
	}
}

// with are a module's bytes, in which the bytes of a part of a section are others; behind says whether those behind it in its section are left there. It answers, too, the part's place.
func with(parts [3][]part, section, number int, bytes string, behind bool) (s string, at int) {
	var texts [3]string
	for i := range parts {
		texts[i] = textOf(parts[i])
	}
	ahead := textOf(parts[section][:number])
	texts[section] = ahead + bytes
	if behind {
		texts[section] += textOf(parts[section][number+1:])
	}
	return whole(texts), beginnings(texts)[section] + len(ahead)
}

// spoilParts asks for a fault, at the place of each part of a module that is asked for, when its bytes are others.
func spoilParts(t *testing.T, m api.Module, isAsked func(p part) bool, bytes string, code api.Errno, further int) {
	t.Helper()
	count := 0
	parts := partsOf(m)
	for section := range parts {
		for i, p := range parts[section] {
			if !isAsked(p) {
				continue
			}
			for _, behind := range []bool{true, false} {
				s, at := with(parts, section, i, bytes, behind)
				wantNoRead(t, s, code, at+further)
			}
			count++
		}
	}
	if count == 0 {
		t.Error("no part of the module is asked for")
	}
}

// P11.2

func TestExamplesOfRead(t *testing.T) {
	m := modules.Least()
	m.NodeAt, m.TemplateAt, m.StartAt = []int{8}, []int{12}, []int{19}
	m.Templates[0].At = []int{14}
	wantRead(t, leastBytes, m)
	m.Templates[0].Code[0].Op = api.OpMul
	wantRead(t, strings.Replace(leastBytes, "\x18", "\x06", 1), m)
	wantNoRead(t, strings.Replace(leastBytes, "\x18", "\x19", 1), api.ErrOp, 14)
	wantNoRead(t, strings.Replace(leastBytes, "\x02\x01\x00", "\x02\x01\x03", 1), api.ErrShort, 9)
}

func TestAllThingsAndTheirPlaces(t *testing.T) {
	wantRead(t, everyBytes, everyPlaced())
	if !modules.Same(placed(every()), everyPlaced()) {
		t.Errorf("the chapter's words place it so: %v", placed(every()))
	}
}

func TestAModuleOfNothing(t *testing.T) {
	s := head + "\x01\x01\x00" + "\x02\x01\x00" + "\x03\x02\x00\x00"
	wantRead(t, s, api.Module{})
	m, err := module.Read(s)
	if err != nil || len(m.NodeAt)+len(m.TemplateAt)+len(m.ChanAt)+len(m.StartAt) > 0 {
		t.Errorf("%v, %v", m, err)
	}
}

// Of each of the sections more than one byte tells how long it is.
func TestListsAtTheirGreatest(t *testing.T) {
	m := placed(full())
	wantRead(t, bytesOf(full()), m)
	if len(m.NodeAt) != 64 || len(m.TemplateAt) != 16 || len(m.ChanAt) != 16 || len(m.StartAt) != 8 || len(m.Templates[15].At) != 128 {
		t.Error("not all things have a place")
	}
	if m.NodeAt[0] != 5+3+1 || m.NodeAt[1] != m.NodeAt[0]+1+2+1+8*3 {
		t.Errorf("the first nodes are at %d and %d", m.NodeAt[0], m.NodeAt[1])
	}
}

func TestThePlacesOfOneSortHangOnNoOther(t *testing.T) {
	for _, m := range []api.Module{
		{Nodes: every().Nodes}, {Templates: every().Templates}, {Chans: every().Chans}, {Starts: every().Starts},
		{Nodes: every().Nodes, Starts: every().Starts}, {Chans: every().Chans, Templates: every().Templates},
	} {
		wantRead(t, bytesOf(m), placed(m))
	}
}

func TestBytesCutAtEachPlace(t *testing.T) {
	texts, ends := []int{7, 58, 141}, []int{56, 139, len(everyBytes)}
	for cut := range len(everyBytes) {
		code, at := api.ErrShort, cut
		if cut < len(head) {
			code = api.ErrMagic
		}
		for i, text := range texts {
			if text <= cut && cut < ends[i] {
				at = text
			}
		}
		wantNoRead(t, everyBytes[:cut], code, at)
	}
}

func TestFaultsOfSections(t *testing.T) {
	wantNoRead(t, "", api.ErrMagic, 0)
	wantNoRead(t, "CLQX", api.ErrMagic, 3)
	wantNoRead(t, "CLQY\x02"+leastBytes[5:], api.ErrMagic, 4)
	wantNoRead(t, head, api.ErrShort, 5)
	wantNoRead(t, head+"\x02\x00", api.ErrKind, 5)
	wantNoRead(t, head+"\x01\x01\x00"+"\x03\x02\x00\x00"+"\x02\x01\x00", api.ErrKind, 8)
	wantNoRead(t, head+"\x01\x80\x00", api.ErrForm, 6)
	wantNoRead(t, head+"\x01\x81\x80\x04\x00", api.ErrLong, 6)
	wantNoRead(t, head+"\x01\x05\x00", api.ErrShort, 7)
	wantNoRead(t, leastBytes+"\x00", api.ErrLong, len(leastBytes))
	wantNoRead(t, leastBytes+leastBytes, api.ErrLong, len(leastBytes))
}

// Sections whose numbers and lengths are right come ahead of what is in them.
func TestSectionsComeAheadOfWhatIsInThem(t *testing.T) {
	for i := range 3 {
		texts := [3]string{"\x00", "\x00", "\x00\x00"}
		texts[i] = "\xff"
		s := whole(texts)
		wantNoRead(t, s+"\x00", api.ErrLong, len(s))
		wantNoRead(t, strings.Replace(s, "CLQY", "CLQZ", 1), api.ErrMagic, 3)
		wantNoRead(t, strings.Replace(s, "\x03", "\x04", 1), api.ErrKind, beginnings(texts)[2]-2)
		wantNoRead(t, s[:len(s)-1], api.ErrShort, beginnings(texts)[2])
	}
}

// A text that is cut, in a section that is as long: what is lacking is looked for at its end, though the next section stands there.
func TestTextsCutAtEachPlace(t *testing.T) {
	for _, m := range []api.Module{modules.Least(), every()} {
		for i, text := range textsOf(m) {
			for cut := range len(text) {
				texts := textsOf(m)
				texts[i] = text[:cut]
				wantNoRead(t, whole(texts), api.ErrShort, beginnings(texts)[i]+cut)
			}
		}
	}
}

func TestNumbersThatAreTooGreat(t *testing.T) {
	for most := range map[int]bool{1: true, 5: true, 8: true, 15: true, 16: true, 31: true, 63: true, 64: true, 128: true, 1000: true} {
		isAsked := func(p part) bool { return p.sort <= isCount && p.most == most }
		for _, n := range []uint64{uint64(most) + 1, uint64(most) + 2, uint64(most) + 128, uint64(most) + 256, 1 << 14, 1 << 31, 1 << 32, 1<<32 + 1, 1<<63 - 1, 1 << 63, math.MaxUint64} {
			spoilParts(t, every(), isAsked, number(n), api.ErrLong, 0)
		}
	}
}

func TestNumbersThatAreNotAtTheirShortest(t *testing.T) {
	for _, bytes := range wrongNumbers() {
		spoilParts(t, every(), func(p part) bool { return p.sort != isInsn }, bytes, api.ErrForm, 0)
	}
}

func TestNumbersThatAreCut(t *testing.T) {
	parts := partsOf(every())
	for section := range parts {
		for i, p := range parts[section] {
			for cut := 1; cut <= 9; cut++ {
				if p.sort == isInsn {
					continue
				}
				s, at := with(parts, section, i, strings.Repeat("\x81", cut), false)
				wantNoRead(t, s, api.ErrShort, at+cut)
			}
		}
	}
}

// Each number at its greatest is read; so is each whole number.
func TestNumbersAtTheirGreatest(t *testing.T) {
	m := every()
	for _, n := range numbersOf(&m) {
		was := *n.at
		for _, good := range []int{0, n.most} {
			*n.at = good
			wantRead(t, bytesOf(m), placed(m))
		}
		*n.at = was
	}
	for _, word := range []int64{0, 1, -1, 63, 64, -64, -65, math.MaxInt32, math.MinInt32, math.MaxInt64, math.MinInt64} {
		m := withArg(api.Arg{Word: word})
		wantRead(t, bytesOf(m), placed(m))
	}
}

func TestMarksThatAreOtherNumbers(t *testing.T) {
	isMarked := func(p part) bool { return p.sort == isMark }
	for _, n := range []uint64{2, 3, 127, 128, 129, 255, 256, 257, 1 << 32, math.MaxUint64} {
		spoilParts(t, every(), isMarked, number(n), api.ErrLong, 0)
	}
	spoilParts(t, every(), isMarked, "\x81\x00", api.ErrForm, 0)
	wantNoRead(t, whole([3]string{"\x01\x01\x00\x02\x00\x00", "\x00", "\x00\x00"}), api.ErrLong, 10)
	wantNoRead(t, whole([3]string{"\x00", "\x01\x01\x02\x01\x00", "\x00\x00"}), api.ErrLong, 12)
	wantNoRead(t, whole([3]string{"\x00", "\x00", "\x00\x01\x00\x01\x02\x00"}), api.ErrLong, 17)
}

// A Select or Branch without Next, and a template without instruction.
func TestListsThatMustHaveOne(t *testing.T) {
	spoilParts(t, every(), func(p part) bool { return p.sort == isCount && p.least == 1 }, "\x00", api.ErrArg, 0)
	wantNoRead(t, whole([3]string{"\x01\x03\x07\x00", "\x00", "\x00\x00"}), api.ErrArg, 10)
	wantNoRead(t, whole([3]string{"\x02\x00\x04\xe8\x07\x00", "\x00", "\x00\x00"}), api.ErrArg, 12)
	wantNoRead(t, whole([3]string{"\x00", "\x01\x00\x00", "\x00\x00"}), api.ErrArg, 12)
	wantNoRead(t, whole([3]string{"\x00", "\x02\x00\x01\x18\x01\x00\x00", "\x00\x00"}), api.ErrArg, 16)
}

// One thing more than may be: how many is wrong already, also where so many things stand there.
func TestListsThatAreTooLong(t *testing.T) {
	most := map[string]int{"nodes": 64, "select": 8, "branch": 8, "templates": 16, "parameters": 8, "code": 128, "channels": 16, "starts": 8, "arguments": 8}
	section := map[string]int{"templates": 1, "parameters": 1, "code": 1, "channels": 2, "starts": 2, "arguments": 2}
	ahead := map[string]int{"select": 3, "branch": 3, "parameters": 1, "code": 2, "starts": 1, "arguments": 3}
	for what, count := range most {
		for _, n := range []int{0, 1, count - 1, count} {
			m := lists(n)[what]
			if n > 0 {
				wantRead(t, bytesOf(m), placed(m))
			}
		}
		for _, n := range []int{count + 1, count + 2, count + 128} {
			m := lists(n)[what]
			wantNoRead(t, bytesOf(m), api.ErrLong, beginnings(textsOf(m))[section[what]]+ahead[what])
		}
	}
}

func TestFaultsOfInstructions(t *testing.T) {
	isInstruction := func(p part) bool { return p.sort == isInsn }
	for _, c := range []struct {
		bytes   string
		code    api.Errno
		further int
	}{
		{"\x19", api.ErrOp, 0}, {"\xff\x00", api.ErrOp, 0}, {"\x80\x00", api.ErrOp, 0},
		{"\x01\x80\x00", api.ErrForm, 1}, {"\x09\x10", api.ErrLong, 1}, {"\x0b\x80\x01", api.ErrLong, 1}, {"\x09\x81\x00", api.ErrForm, 1},
		{"\x10\x01\x01", api.ErrArg, 0}, {"\x10\x01\x10", api.ErrLong, 2}, {"\x12\x01\x08", api.ErrLong, 2}, {"\x13\x00\x00", api.ErrArg, 0}, {"\x13\x00\x09", api.ErrLong, 2},
		{"\x14\x40\x00\x00\x01", api.ErrLong, 1}, {"\x14\x00\xe9\x07\x00\x01", api.ErrLong, 2}, {"\x14\x00\x00\x01\x01", api.ErrArg, 0}, {"\x15\x10\x00", api.ErrLong, 1}, {"\x15\x00\x02\x03\x03", api.ErrArg, 0},
	} {
		spoilParts(t, every(), isInstruction, c.bytes, c.code, c.further)
	}
	parts := partsOf(every())
	for i, p := range parts[1] {
		for cut := range len(p.bytes) {
			if p.sort == isInsn {
				s, at := with(parts, 1, i, p.bytes[:cut], false)
				wantNoRead(t, s, api.ErrShort, at+cut)
			}
		}
	}
}

// Each instruction stands in a template's code, and takes its bytes alone.
func TestInstructionsAreRead(t *testing.T) {
	for _, x := range eachOp() {
		w := octets.NewWriter()
		if e := insn.Put(w, x); e != api.OK {
			t.Fatal(e)
		}
		m := api.Module{
			Templates:  []api.Template{{Code: []api.Insn{x, {}, x}, At: []int{13, 13 + w.Len(), 14 + w.Len()}}},
			TemplateAt: []int{11},
		}
		wantRead(t, whole([3]string{"\x00", "\x01\x00\x03" + w.Text() + "\x00" + w.Text(), "\x00\x00"}), m)
	}
}

func TestBytesBehindTheThingsOfASection(t *testing.T) {
	for _, m := range known() {
		for i, text := range textsOf(m) {
			for _, more := range []string{"\x00", "\x01", "\x18", "\x80", "\x00\x00", "\xff\xff\xff", text} {
				texts := textsOf(m)
				texts[i] += more
				wantNoRead(t, whole(texts), api.ErrLong, beginnings(texts)[i]+len(text))
			}
		}
	}
	wantNoRead(t, whole([3]string{"\x00\x00", "\x00", "\x00\x00"}), api.ErrLong, 8)
	wantNoRead(t, whole([3]string{"\x00", "\x00\x00", "\x00\x00"}), api.ErrLong, 11)
	wantNoRead(t, whole([3]string{"\x00", "\x00", "\x00\x00\x00"}), api.ErrLong, 15)
}

// Of things that are wrong in two sections that of the first one is told, also where it is but a byte that is left there.
func TestTheFirstSectionThatIsWrongIsTold(t *testing.T) {
	wrong := [3]map[string]api.Errno{
		{"\x41": api.ErrLong, "": api.ErrShort, "\x80\x00": api.ErrForm},
		{"\x11": api.ErrLong, "": api.ErrShort, "\x80\x00": api.ErrForm},
		{"\x11": api.ErrLong, "": api.ErrShort, "\x80\x00": api.ErrForm},
	}
	for first := range 3 {
		for second := first + 1; second < 3; second++ {
			for bytes, code := range wrong[first] {
				for others := range wrong[second] {
					texts := textsOf(every())
					texts[first], texts[second] = bytes, others
					wantNoRead(t, whole(texts), code, beginnings(texts)[first])
					texts[first] = textsOf(every())[first] + "\x00"
					wantNoRead(t, whole(texts), api.ErrLong, beginnings(texts)[first]+len(texts[first])-1)
				}
			}
		}
	}
}

// Of two parts of a section that are wrong the first one is told.
func TestTheFirstPartThatIsWrongIsTold(t *testing.T) {
	parts := partsOf(every())
	for section := range parts {
		for i := range parts[section] {
			for j := i + 1; j < len(parts[section]); j++ {
				both := parts
				both[section] = append([]part{}, parts[section]...)
				both[section][j].bytes = "\x80\x00" // no number's bytes, and no op's
				code := api.ErrForm
				if parts[section][i].sort == isInsn {
					code = api.ErrOp
				}
				s, at := with(both, section, i, "\x80\x00", true)
				wantNoRead(t, s, code, at)
			}
		}
	}
}

func TestMoreThanOneThingIsWrong(t *testing.T) {
	for text, want := range map[string]struct {
		code api.Errno
		at   int
	}{
		"\x41\x06":             {api.ErrLong, 7},   // too many nodes, and no such kind
		"\x02\x06\x80\x00":     {api.ErrLong, 8},   // no such kind, and bytes that are no number's
		"\x01\x03\xe9\x07\x00": {api.ErrLong, 9},   // a Prio that is too great, and no Next
		"\x01\x03\x00\x00\x40": {api.ErrArg, 10},   // no Next, and a byte that is left
		"\x01\x03\x00\x09\x40": {api.ErrLong, 10},  // too many Next, and a To that is too great
		"\x01\x05\x40\x80\x00": {api.ErrLong, 9},   // a To that is too great, and a Shift that is no number
		"\x01\x05\x00\xe9\x07": {api.ErrLong, 10},  // a Shift that is too great
		"\x01\x01\x00\x02\x40": {api.ErrLong, 10},  // a mark that is none, and a To that is too great
		"\x01\x00\x06\x80\x00": {api.ErrLong, 9},   // a byte that is left, whatever it is
		"\x02\x00\x03\x00\x00": {api.ErrArg, 11},   // no Next, in the second node
		"\x02\x00\x03\x00\x80": {api.ErrShort, 12}, // how many is cut
	} {
		wantNoRead(t, whole([3]string{text, "\xff\xff", "\xff\xff"}), want.code, want.at)
	}
	for text, want := range map[string]struct {
		code api.Errno
		at   int
	}{
		"\x11\x09":                         {api.ErrLong, 11 - 1},
		"\x01\x09\x02\x00":                 {api.ErrLong, 11},
		"\x01\x01\x02\x00":                 {api.ErrLong, 12},
		"\x01\x01\x01\x40\xe9\x07":         {api.ErrLong, 13},
		"\x01\x01\x01\x00\xe9\x07\x00":     {api.ErrLong, 14},
		"\x01\x01\x00\x00\x19":             {api.ErrArg, 13},
		"\x01\x00\x81\x01\x19":             {api.ErrLong, 12},
		"\x01\x00\x02\x19\x19":             {api.ErrOp, 13},
		"\x01\x00\x02\x18\x10\x01\x01\x00": {api.ErrArg, 14},
		"\x02\x00\x01\x18\x00\x00":         {api.ErrArg, 15},
		"\x01\x00\x01\x18\x19":             {api.ErrLong, 14},
	} {
		wantNoRead(t, whole([3]string{"\x00", text, "\xff\xff"}), want.code, want.at)
	}
	for text, want := range map[string]struct {
		code api.Errno
		at   int
	}{
		"\x11\x09":                         {api.ErrLong, 13},
		"\x01\x40\xe9\x07":                 {api.ErrLong, 14},
		"\x01\x00\xe9\x07\x09":             {api.ErrLong, 15},
		"\x00\x09\x10":                     {api.ErrLong, 14},
		"\x00\x01\x10\x09":                 {api.ErrLong, 15},
		"\x00\x01\x00\x09\x02":             {api.ErrLong, 16},
		"\x00\x01\x00\x01\x02\x80\x00":     {api.ErrLong, 17},
		"\x00\x01\x00\x01\x01\x20\x00":     {api.ErrLong, 18},
		"\x00\x01\x00\x02\x00\x80\x00\x02": {api.ErrForm, 18},
		"\x00\x01\x00\x01\x01\x1f\x00":     {api.ErrLong, 19},
	} {
		wantNoRead(t, whole([3]string{"\x00", "\x00", text}), want.code, want.at)
	}
}

// Split's own readers are asked: what it tells of bytes, Read tells.
func TestReadTellsWhatSplitTells(t *testing.T) {
	row := tables.Row(13)
	for range 3000 {
		s := spoilt(&row, leastBytes)
		_, err := sect.Split(s)
		if f, is := err.(*api.Fault); is {
			wantNoRead(t, s, f.Code, f.At)
		}
	}
}

func TestFaultsAreNew(t *testing.T) {
	for _, s := range []string{"", leastBytes + "\x00", strings.Replace(leastBytes, "\x18", "\x19", 1), whole([3]string{"\x00", "\x01\x00\x00", "\x00\x00"})} {
		_, first := module.Read(s)
		f, is := first.(*api.Fault)
		if !is {
			t.Fatal(first)
		}
		code, at := f.Code, f.At
		f.Code, f.At = api.ErrWord, 99
		wantNoRead(t, s, code, at)
	}
}

// What becomes of an answer is not seen in another one.
func TestWhatIsReadIsNew(t *testing.T) {
	m, err := module.Read(everyBytes)
	if err != nil {
		t.Fatal(err)
	}
	for _, n := range numbersOf(&m) {
		*n.at = 77
	}
	m.Templates[2].Code[11].L[0], m.Templates[1].At[0], m.NodeAt[0], m.TemplateAt[0], m.ChanAt[0], m.StartAt[0] = 5, 5, 5, 5, 5, 5
	wantRead(t, everyBytes, everyPlaced())
}
