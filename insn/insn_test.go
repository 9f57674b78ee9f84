package insn_test

import (
	"math"
	"slices"
	"strings"
	"testing"

	"colloquy/api"
	"colloquy/codes"
	"colloquy/faults"
	"colloquy/insn"
	"colloquy/leb"
	"colloquy/octets"
	"colloquy/tables"
)

// wantKept asks that an instruction that was handed in is as it was, and so is the room behind its list.
func wantKept(t *testing.T, x, was api.Insn) {
	t.Helper()
	room := x.L[len(x.L):cap(x.L)]
	if !codes.Same(x, was) || (x.L == nil) != (was.L == nil) || !slices.Equal(room, make([]int, len(room))) {
		t.Errorf("%v was handed in, and is %v now", was, x)
	}
}

// wantCheck asks for Check's answer, and that Put has the same one: that it lays nothing beside an error, and something else.
func wantCheck(t *testing.T, x api.Insn, e api.Errno) {
	t.Helper()
	given := codes.Deep(x)
	for range 2 {
		if got := insn.Check(given); got != e {
			t.Errorf("Check of %v: %d, but %d is asked for", x, got, e)
		}
		w := octets.NewWriter()
		w.Put("ab")
		if got := insn.Put(w, given); got != e {
			t.Errorf("Put of %v: %d, but %d is asked for", x, got, e)
		}
		if was := w.Text(); !strings.HasPrefix(was, "ab") || (len(was) > 2) != (e == api.OK) {
			t.Errorf("Put of %v: % x", x, was)
		}
	}
	wantKept(t, given, x)
}

// wantBytes asks for the bytes that Put lays.
func wantBytes(t *testing.T, x api.Insn, bytes string) {
	t.Helper()
	w := octets.NewWriter()
	if e := insn.Put(w, x); e != api.OK || w.Text() != bytes {
		t.Errorf("Put of %v: %d, % x, but % x is asked for", x, e, w.Text(), bytes)
	}
}

// wantRead asks for an instruction that is read, and for the reader's place behind it.
func wantRead(t *testing.T, r *octets.Reader, x api.Insn, place int) {
	t.Helper()
	if got, err := insn.Read(r); !codes.Same(got, x) || err != nil {
		t.Errorf("Read: %v, %v, but %v is asked for", got, err, x)
	}
	if r.Place() != place {
		t.Errorf("Read of %v: the place is %d, but %d is asked for", x, r.Place(), place)
	}
}

// wantNoRead asks for a fault alone, and for the reader's place behind what was taken.
func wantNoRead(t *testing.T, r *octets.Reader, code api.Errno, at, place int) {
	t.Helper()
	x, err := insn.Read(r)
	if wrong := faults.Unlike(err, code, at); wrong != "" {
		t.Errorf("Read: %s", wrong)
	}
	if !codes.Same(x, api.Insn{}) {
		t.Errorf("Read: %v beside a fault", x)
	}
	if r.Place() != place {
		t.Errorf("Read: the place is %d behind a fault, but %d is asked for", r.Place(), place)
	}
}

// part is a reader of bytes that stand in a whole of other ones, from 5 on.
func part(t *testing.T, bytes string) *octets.Reader {
	t.Helper()
	r := octets.NewReader("\x01\x80\xff\x18\x07" + bytes + "\x00\x01\x01")
	_, err := r.Take(5)
	p, bad := r.Part(len(bytes))
	if err != nil || bad != nil {
		t.Fatal(err, bad)
	}
	return p
}

// laid is an instruction with its bytes, worked out by hand.
type laid struct {
	x     api.Insn
	bytes string
}

// known are instructions of all ops, with the least and the greatest operands that may be.
func known() []laid {
	l := []laid{
		{api.Insn{Op: api.OpPush}, "\x01\x00"},
		{api.Insn{Op: api.OpPush, A: -1}, "\x01\x01"},
		{api.Insn{Op: api.OpPush, A: -2}, "\x01\x03"},
		{api.Insn{Op: api.OpPush, A: 5}, "\x01\x0a"},
		{api.Insn{Op: api.OpPush, A: 64}, "\x01\x80\x01"},
		{api.Insn{Op: api.OpPush, A: math.MaxInt64}, "\x01\xfe\xff\xff\xff\xff\xff\xff\xff\xff\x01"},
		{api.Insn{Op: api.OpPush, A: math.MinInt64}, "\x01\xff\xff\xff\xff\xff\xff\xff\xff\xff\x01"},
		{api.Insn{Op: api.OpSelect}, "\x12\x00\x00"},
		{api.Insn{Op: api.OpSelect, B: 1, C: 7}, "\x12\x01\x07"},
		{api.Insn{Op: api.OpSelect, B: 15, C: 0}, "\x12\x0f\x00"},
		{api.Insn{Op: api.OpSelect, B: 7, C: 7}, "\x12\x07\x07"},
		{api.Insn{Op: api.OpSelect, B: 15, C: 7}, "\x12\x0f\x07"},
		{api.Insn{Op: api.OpBranch, L: []int{0}}, "\x13\x00\x01\x00"},
		{api.Insn{Op: api.OpBranch, L: []int{4, 9}}, "\x13\x00\x02\x04\x09"},
		{api.Insn{Op: api.OpBranch, B: 15, L: []int{127}}, "\x13\x0f\x01\x7f"},
		{api.Insn{Op: api.OpBranch, B: 3, L: []int{3, 3, 3}}, "\x13\x03\x03\x03\x03\x03"},
		{api.Insn{Op: api.OpBranch, B: 15, L: []int{0, 127, 16, 15, 127, 0, 64, 1}}, "\x13\x0f\x08\x00\x7f\x10\x0f\x7f\x00\x40\x01"},
		{api.Insn{Op: api.OpNew, L: []int{0, 1}}, "\x14\x00\x00\x00\x01"},
		{api.Insn{Op: api.OpNew, B: 2, D: 300, L: []int{0, 1}}, "\x14\x02\xac\x02\x00\x01"},
		{api.Insn{Op: api.OpNew, B: 63, D: 1000, L: []int{15, 14}}, "\x14\x3f\xe8\x07\x0f\x0e"},
		{api.Insn{Op: api.OpNew, B: 1, D: 1, L: []int{1, 0}}, "\x14\x01\x01\x01\x00"},
		{api.Insn{Op: api.OpSpawn}, "\x15\x00\x00"},
		{api.Insn{Op: api.OpSpawn, B: 15}, "\x15\x0f\x00"},
		{api.Insn{Op: api.OpSpawn, L: []int{0}}, "\x15\x00\x01\x00"},
		{api.Insn{Op: api.OpSpawn, B: 1, L: []int{0, 3}}, "\x15\x01\x02\x00\x03"},
		{api.Insn{Op: api.OpSpawn, B: 2, L: []int{2}}, "\x15\x02\x01\x02"},
		{api.Insn{Op: api.OpSpawn, B: 15, L: []int{15, 0, 14, 1, 13, 2, 12, 3}}, "\x15\x0f\x08\x0f\x00\x0e\x01\x0d\x02\x0c\x03"},
	}
	for op, byteOf := range map[int]string{
		api.OpNop: "\x00", api.OpPop: "\x02", api.OpDup: "\x03", api.OpAdd: "\x04", api.OpSub: "\x05",
		api.OpMul: "\x06", api.OpEq: "\x07", api.OpLt: "\x08", api.OpOut: "\x0d", api.OpHalt: "\x18",
	} {
		l = append(l, laid{api.Insn{Op: op}, byteOf})
	}
	for op, byteOf := range map[int]string{
		api.OpGet: "\x09", api.OpPut: "\x0a", api.OpSend: "\x0e", api.OpRecv: "\x0f", api.OpClose: "\x16",
	} {
		l = append(l, laid{api.Insn{Op: op}, byteOf + "\x00"}, laid{api.Insn{Op: op, B: 3}, byteOf + "\x03"}, laid{api.Insn{Op: op, B: 15}, byteOf + "\x0f"})
	}
	for op, byteOf := range map[int]string{api.OpGive: "\x10", api.OpTake: "\x11", api.OpMove: "\x17"} {
		l = append(l, laid{api.Insn{Op: op, B: 1, C: 2}, byteOf + "\x01\x02"}, laid{api.Insn{Op: op, C: 15}, byteOf + "\x00\x0f"}, laid{api.Insn{Op: op, B: 15}, byteOf + "\x0f\x00"})
	}
	for op, byteOf := range map[int]string{api.OpJump: "\x0b", api.OpJz: "\x0c"} {
		l = append(l, laid{api.Insn{Op: op, L: []int{0}}, byteOf + "\x00"}, laid{api.Insn{Op: op, L: []int{5}}, byteOf + "\x05"}, laid{api.Insn{Op: op, L: []int{127}}, byteOf + "\x7f"})
	}
	return l
}

// operand is one of an instruction, as the chapter's table has it.
type operand struct {
	name  string // of its field; of how many the list has: count
	value int
	most  int // the greatest one that may be
}

// operands are an instruction's operands but for A, in the order of their bytes.
func operands(x api.Insn) []operand {
	list := func(most int, ahead ...operand) []operand {
		for _, n := range x.L {
			ahead = append(ahead, operand{"L", n, most})
		}
		return ahead
	}
	switch x.Op {
	case api.OpGet, api.OpPut, api.OpSend, api.OpRecv, api.OpClose:
		return []operand{{"B", x.B, 15}}
	case api.OpGive, api.OpTake, api.OpMove:
		return []operand{{"B", x.B, 15}, {"C", x.C, 15}}
	case api.OpJump, api.OpJz:
		return list(127)
	case api.OpSelect:
		return []operand{{"B", x.B, 15}, {"C", x.C, 7}}
	case api.OpBranch:
		return list(127, operand{"B", x.B, 15}, operand{"count", len(x.L), 8})
	case api.OpNew:
		return list(15, operand{"B", x.B, 63}, operand{"D", x.D, 1000})
	case api.OpSpawn:
		return list(15, operand{"B", x.B, 15}, operand{"count", len(x.L), 8})
	}
	return nil
}

// with is a copy of an instruction, in which the operand of that number is another one; how many its list has stays.
func with(x api.Insn, number, value int) api.Insn {
	x = codes.Deep(x)
	ops := operands(x)
	switch ops[number].name {
	case "B":
		x.B = value
	case "C":
		x.C = value
	case "D":
		x.D = value
	case "L":
		x.L[number-(len(ops)-len(x.L))] = value
	}
	return x
}

// ahead are an instruction's bytes that stand ahead of the operand of that number.
func ahead(x api.Insn, number int) string {
	w := octets.NewWriter()
	w.Byte(byte(x.Op))
	for _, o := range operands(x)[:number] {
		leb.PutU(w, uint64(o.value))
	}
	return w.Text()
}

// mayBe tells, by the chapter's words, whether an instruction may be.
func mayBe(x api.Insn) api.Errno {
	if x.Op < 0 || x.Op > 24 {
		return api.ErrOp
	}
	isRegister := func(n int) bool { return n >= 0 && n <= 15 }
	allOf := func(most int) bool {
		return !slices.ContainsFunc(x.L, func(n int) bool { return n < 0 || n > most })
	}
	unlike := func() bool {
		l := slices.Sorted(slices.Values(x.L))
		return len(slices.Compact(l)) == len(x.L)
	}
	var fit bool
	no := struct{ a, b, c, d, l bool }{x.A == 0, x.B == 0, x.C == 0, x.D == 0, len(x.L) == 0}
	switch x.Op {
	case api.OpPush:
		fit = no.b && no.c && no.d && no.l
	case api.OpGet, api.OpPut, api.OpSend, api.OpRecv, api.OpClose:
		fit = no.a && isRegister(x.B) && no.c && no.d && no.l
	case api.OpGive, api.OpTake, api.OpMove:
		fit = no.a && isRegister(x.B) && isRegister(x.C) && x.B != x.C && no.d && no.l
	case api.OpJump, api.OpJz:
		fit = no.a && no.b && no.c && no.d && len(x.L) == 1 && allOf(127)
	case api.OpSelect:
		fit = no.a && isRegister(x.B) && x.C >= 0 && x.C <= 7 && no.d && no.l
	case api.OpBranch:
		fit = no.a && isRegister(x.B) && no.c && no.d && len(x.L) >= 1 && len(x.L) <= 8 && allOf(127)
	case api.OpNew:
		fit = no.a && x.B >= 0 && x.B <= 63 && no.c && x.D >= 0 && x.D <= 1000 && len(x.L) == 2 && allOf(15) && unlike()
	case api.OpSpawn:
		fit = no.a && x.B >= 0 && x.B <= 15 && no.c && no.d && len(x.L) <= 8 && allOf(15) && unlike()
	default:
		fit = no.a && no.b && no.c && no.d && no.l
	}
	if !fit {
		return api.ErrArg
	}
	return api.OK
}

// noOps are numbers of no op.
func noOps() []int { return append(tables.OddNumbers(), 25, 26, 127, 128, 255, 256, 256+api.OpPush) }

// P9.1

func TestKnownInstructionsMayBe(t *testing.T) {
	ops := map[int]int{}
	for _, k := range known() {
		wantCheck(t, k.x, api.OK)
		wantBytes(t, k.x, k.bytes)
		ops[k.x.Op]++
	}
	if len(ops) != api.LastOp+1 {
		t.Errorf("%d ops are known", len(ops))
	}
}

func TestPutStandsBehindTheWritersBytes(t *testing.T) {
	w, want := octets.NewWriter(), "ab"
	w.Put("ab")
	for _, k := range known() {
		e := insn.Put(w, k.x)
		bad := insn.Put(w, api.Insn{Op: api.OpGet, B: 16})
		worse := insn.Put(w, api.Insn{Op: 25})
		want += k.bytes
		if e != api.OK || bad != api.ErrArg || worse != api.ErrOp || w.Text() != want {
			t.Fatalf("Put of %v: %d, %d, %d, % x", k.x, e, bad, worse, w.Text())
		}
	}
}

func TestEachOperandAtItsEnds(t *testing.T) {
	for _, k := range known() {
		for i, o := range operands(k.x) {
			if o.name == "count" {
				continue
			}
			for _, n := range []int{0, 1, o.most - 1, o.most} {
				x := with(k.x, i, n)
				wantCheck(t, x, mayBe(x)) // registers that are alike may not be
			}
			for _, n := range append(tables.OddNumbers(), o.most+1, o.most+2, o.most+256, 1<<32+1) {
				wantCheck(t, with(k.x, i, n), api.ErrArg)
			}
		}
	}
}

// Where an operand is at its end, and the others are such that no registers are alike, the instruction may be.
func TestEachOperandMayBeAtItsEnds(t *testing.T) {
	for _, k := range known() {
		for i, o := range operands(k.x) {
			for _, n := range []int{0, o.most} {
				x := with(k.x, i, n)
				for j := range x.L {
					x.L[j] = 3 + j
				}
				if x.Op == api.OpGive || x.Op == api.OpTake || x.Op == api.OpMove {
					x = with(x, 1-i, 7)
				}
				if o.name == "L" {
					x = with(x, i, n)
				}
				wantCheck(t, x, api.OK)
				s := bytesOf(t, x)
				wantRead(t, octets.NewReader(s), x, len(s))
			}
		}
	}
}

func TestEachWholeNumberMayBePushed(t *testing.T) {
	for _, a := range []int64{0, 1, -1, 127, 128, -128, math.MaxInt32, math.MinInt32, 1 << 32, math.MaxInt64, math.MaxInt64 - 1, math.MinInt64, math.MinInt64 + 1} {
		x := api.Insn{Op: api.OpPush, A: a}
		wantCheck(t, x, api.OK)
		w := octets.NewWriter()
		w.Byte(1)
		leb.PutS(w, a)
		wantBytes(t, x, w.Text())
	}
}

func TestOpsThatAreNone(t *testing.T) {
	for _, op := range noOps() {
		for _, k := range known() {
			x := codes.Deep(k.x)
			x.Op = op
			wantCheck(t, x, api.ErrOp)
		}
		wantCheck(t, api.Insn{Op: op}, api.ErrOp)
		wantCheck(t, api.Insn{Op: op, A: 1, B: -1, C: 99, D: 1001, L: []int{-1, -1, 128}}, api.ErrOp)
	}
}

func TestWhatIsNoOperandIsZero(t *testing.T) {
	hasList := []int{api.OpJump, api.OpJz, api.OpBranch, api.OpNew, api.OpSpawn}
	for _, k := range known() {
		has := map[string]int{}
		for _, o := range operands(k.x) {
			has[o.name]++
		}
		for _, n := range append(tables.OddNumbers(), 1, 2, 15) {
			x := codes.Deep(k.x)
			if x.A = int64(n); x.Op != api.OpPush {
				wantCheck(t, x, api.ErrArg)
			}
			x = codes.Deep(k.x)
			if x.B = n; has["B"] == 0 {
				wantCheck(t, x, api.ErrArg)
			}
			x = codes.Deep(k.x)
			if x.C = n; has["C"] == 0 {
				wantCheck(t, x, api.ErrArg)
			}
			x = codes.Deep(k.x)
			if x.D = n; has["D"] == 0 {
				wantCheck(t, x, api.ErrArg)
			}
			x = codes.Deep(k.x)
			if x.L = []int{n}; !slices.Contains(hasList, x.Op) {
				wantCheck(t, x, api.ErrArg)
			}
		}
	}
}

func TestAListThatIsEmptyIsLikeNone(t *testing.T) {
	for _, k := range known() {
		x := codes.Deep(k.x)
		if len(x.L) > 0 {
			continue
		}
		for _, l := range [][]int{nil, {}, make([]int, 0, 3)} {
			x.L = l
			wantCheck(t, x, api.OK)
			wantBytes(t, x, k.bytes)
		}
	}
	for _, op := range []int{api.OpJump, api.OpJz, api.OpBranch, api.OpNew} {
		for _, l := range [][]int{nil, {}, make([]int, 0, 3)} {
			wantCheck(t, api.Insn{Op: op, L: l}, api.ErrArg)
		}
	}
}

// upTo are the numbers from 0 on, so many.
func upTo(count int) []int {
	var l []int
	for i := range count {
		l = append(l, i)
	}
	return l
}

func TestHowManyAListHas(t *testing.T) {
	least := map[int]int{api.OpJump: 1, api.OpJz: 1, api.OpBranch: 1, api.OpNew: 2, api.OpSpawn: 0}
	most := map[int]int{api.OpJump: 1, api.OpJz: 1, api.OpBranch: 8, api.OpNew: 2, api.OpSpawn: 8}
	for op := range api.LastOp + 1 {
		x := api.Insn{Op: op}
		if op == api.OpGive || op == api.OpTake || op == api.OpMove {
			x.C = 1
		}
		for _, count := range []int{0, 1, 2, 3, 7, 8, 9, 10, 16, 17, 128, 256, 1000} {
			e := api.ErrArg
			if least[op] <= count && count <= most[op] {
				e = api.OK
			}
			x.L = upTo(count)
			wantCheck(t, x, e)
			x.L = make([]int, count) // targets may be alike, registers may not
			if e == api.OK && count > 1 && op != api.OpBranch {
				e = api.ErrArg
			}
			wantCheck(t, x, e)
		}
	}
}

func TestRegistersThatAreAlike(t *testing.T) {
	for r := range 16 {
		for _, op := range []int{api.OpGive, api.OpTake, api.OpMove} {
			wantCheck(t, api.Insn{Op: op, B: r, C: r}, api.ErrArg)
			wantCheck(t, api.Insn{Op: op, B: r, C: (r + 1) % 16}, api.OK)
			wantCheck(t, api.Insn{Op: op, B: (r + 1) % 16, C: r}, api.OK)
		}
		wantCheck(t, api.Insn{Op: api.OpNew, L: []int{r, r}}, api.ErrArg)
		wantCheck(t, api.Insn{Op: api.OpNew, B: r, D: r, L: []int{r, (r + 1) % 16}}, api.OK)
		wantCheck(t, api.Insn{Op: api.OpSpawn, L: []int{r, r}}, api.ErrArg)
		wantCheck(t, api.Insn{Op: api.OpSpawn, B: r, L: []int{(r + 1) % 16, r}}, api.OK)
		wantCheck(t, api.Insn{Op: api.OpBranch, B: r, L: []int{r, r, r}}, api.OK)
	}
	for i := range 8 {
		for j := range 8 {
			x := api.Insn{Op: api.OpSpawn, B: 3, L: []int{15, 14, 13, 12, 11, 10, 9, 8}}
			wantCheck(t, x, api.OK)
			if x.L[j] = x.L[i]; i != j {
				wantCheck(t, x, api.ErrArg)
			}
		}
	}
}

// Many instructions, whose operands are around all ends, of all ops and some that are none.
func TestCheckAsItIsTold(t *testing.T) {
	lists := [][]int{nil, {}, upTo(7), upTo(8), upTo(9), {0, 1, 2, 1}, {3, 4, 5, 6, 7, 8, 9, 16}, {127, 127, 127, 127}}
	for _, m := range []int{-1, 0, 1, 15, 16, 127, 128} {
		lists = append(lists, []int{m}, []int{0, 1, m})
		for _, n := range []int{-1, 0, 1, 15, 16, 127, 128} {
			lists = append(lists, []int{m, n})
		}
	}
	for op := -1; op <= 25; op++ {
		for _, b := range []int{-1, 0, 1, 15, 16, 63, 64} {
			for _, c := range []int{-1, 0, 1, 7, 8, 15, 16} {
				for _, d := range []int{-1, 0, 1000, 1001} {
					for _, l := range lists {
						x := api.Insn{Op: op, B: b, C: c, D: d, L: l}
						for range 2 {
							if got, want := insn.Check(x), mayBe(x); got != want {
								t.Fatalf("Check of %v: %d, but %d is asked for", x, got, want)
							}
							x.A--
						}
					}
				}
			}
		}
	}
}

func TestAWriterThatIsNone(t *testing.T) {
	for _, k := range known() {
		if e := insn.Put(nil, k.x); e != api.OK {
			t.Errorf("Put of %v nowhere: %d", k.x, e)
		}
		w := new(octets.Writer)
		if e := insn.Put(w, k.x); e != api.OK || w.Text() != k.bytes {
			t.Errorf("Put of %v: %d, % x", k.x, e, w.Text())
		}
	}
	if e := insn.Put(nil, api.Insn{Op: 25}); e != api.ErrOp {
		t.Errorf("Put nowhere: %d", e)
	}
	if e := insn.Put(nil, api.Insn{Op: api.OpNop, B: 1}); e != api.ErrArg {
		t.Errorf("Put nowhere: %d", e)
	}
}

// What was laid stays laid, whatever becomes of the list that was handed in.
func TestPutKeepsNothing(t *testing.T) {
	x, w := api.Insn{Op: api.OpBranch, L: []int{4, 9}}, octets.NewWriter()
	if e := insn.Put(w, x); e != api.OK {
		t.Fatal(e)
	}
	x.L[0], x.L[1] = 100, 101
	if got := w.Text(); got != "\x13\x00\x02\x04\x09" {
		t.Errorf("% x", got)
	}
}

func TestCommAndEnds(t *testing.T) {
	comm := []int{api.OpSend, api.OpRecv, api.OpGive, api.OpTake, api.OpSelect, api.OpBranch}
	ends := []int{api.OpJump, api.OpBranch, api.OpHalt}
	for op := range api.LastOp + 1 {
		if got := insn.Comm(op); got != slices.Contains(comm, op) {
			t.Errorf("Comm of %d: %v", op, got)
		}
		if got := insn.Ends(op); got != slices.Contains(ends, op) {
			t.Errorf("Ends of %d: %v", op, got)
		}
	}
	for _, op := range noOps() {
		if insn.Comm(op) || insn.Ends(op) {
			t.Errorf("%d is no op", op)
		}
	}
}

// P9.2

func TestExamplesOfRead(t *testing.T) {
	wantNoRead(t, octets.NewReader(""), api.ErrShort, 0, 0)
	wantNoRead(t, octets.NewReader("\x19"), api.ErrOp, 0, 1)
	wantNoRead(t, octets.NewReader("\x10\x01\x01"), api.ErrArg, 0, 3)
	wantNoRead(t, octets.NewReader("\x13\x00\x00"), api.ErrArg, 0, 3)
	wantNoRead(t, octets.NewReader("\x09\x10"), api.ErrLong, 1, 2)
	wantNoRead(t, octets.NewReader("\x13\x00\x09"), api.ErrLong, 2, 3)
	wantNoRead(t, octets.NewReader("\x0b\x80\x01"), api.ErrLong, 1, 3)
}

func TestKnownInstructionsAreRead(t *testing.T) {
	for _, k := range known() {
		wantRead(t, octets.NewReader(k.bytes), k.x, len(k.bytes))
		wantRead(t, octets.NewReader(k.bytes+"\x00\x00\x01"), k.x, len(k.bytes))
		wantRead(t, part(t, k.bytes), k.x, 5+len(k.bytes))
	}
}

func TestBytesThatAreNoOp(t *testing.T) {
	for b := api.LastOp + 1; b < 256; b++ {
		one := string([]byte{byte(b)})
		wantNoRead(t, octets.NewReader(one), api.ErrOp, 0, 1)
		wantNoRead(t, octets.NewReader(one+"\x00\x01\x02"), api.ErrOp, 0, 1)
		wantNoRead(t, part(t, one+"\x80\x00"), api.ErrOp, 5, 6)
	}
}

func TestBytesAreCut(t *testing.T) {
	for _, k := range known() {
		for cut := range len(k.bytes) {
			wantNoRead(t, octets.NewReader(k.bytes[:cut]), api.ErrShort, cut, cut)
			wantNoRead(t, part(t, k.bytes[:cut]), api.ErrShort, 5+cut, 5+cut)
		}
	}
}

// bytesOf are the bytes of an instruction that may be.
func bytesOf(t *testing.T, x api.Insn) string {
	t.Helper()
	w := octets.NewWriter()
	if e := insn.Put(w, x); e != api.OK {
		t.Fatalf("Put of %v: %d", x, e)
	}
	return w.Text()
}

// number are the bytes of a number.
func number(n uint64) string {
	w := octets.NewWriter()
	leb.PutU(w, n)
	return w.Text()
}

// wrongNumbers are bytes that are no number's, or not the ones that it has, each with how many are taken.
func wrongNumbers() map[string]int {
	return map[string]int{
		"\x80\x00":                         2,
		"\x81\x00":                         2,
		"\xff\x80\x00":                     3,
		strings.Repeat("\xff", 10):         10,
		strings.Repeat("\x80", 11):         10,
		strings.Repeat("\x80", 9) + "\x02": 10,
	}
}

func TestOperandsThatAreTooGreat(t *testing.T) {
	for _, k := range known() {
		for i, o := range operands(k.x) {
			ahead := ahead(k.x, i)
			for _, n := range []uint64{uint64(o.most) + 1, uint64(o.most) + 2, 1 << 14, 1 << 31, 1 << 32, 1<<63 - 1, 1 << 63, math.MaxUint64} {
				s := ahead + number(n)
				wantNoRead(t, octets.NewReader(s), api.ErrLong, len(ahead), len(s))
				wantNoRead(t, octets.NewReader(s+"\x01\x02\x03"), api.ErrLong, len(ahead), len(s))
				wantNoRead(t, part(t, s), api.ErrLong, 5+len(ahead), 5+len(s))
			}
		}
	}
}

func TestOperandsThatAreNoNumbers(t *testing.T) {
	for wrong, taken := range wrongNumbers() {
		for _, k := range known() {
			for i := range operands(k.x) {
				s := ahead(k.x, i)
				wantNoRead(t, octets.NewReader(s+wrong), api.ErrForm, len(s), len(s)+taken)
				wantNoRead(t, part(t, s+wrong+"\x00\x00"), api.ErrForm, 5+len(s), 5+len(s)+taken)
			}
		}
		wantNoRead(t, octets.NewReader("\x01"+wrong), api.ErrForm, 1, 1+taken)
	}
}

func TestCountsThatMayNotBe(t *testing.T) {
	for _, op := range []string{"\x13", "\x15"} {
		for _, n := range []uint64{9, 10, 15, 16, 127, 128, 1 << 32, 1 << 63, math.MaxUint64} {
			s := op + "\x0f" + number(n)
			wantNoRead(t, octets.NewReader(s), api.ErrLong, 2, len(s))
			wantNoRead(t, octets.NewReader(s+strings.Repeat("\x00", 16)), api.ErrLong, 2, len(s))
		}
	}
	wantNoRead(t, octets.NewReader("\x13\x0f\x00\x01\x02"), api.ErrArg, 0, 3)
	wantNoRead(t, part(t, "\x13\x0f\x00"), api.ErrArg, 5, 8)
	wantRead(t, octets.NewReader("\x15\x0f\x00\x01\x02"), api.Insn{Op: api.OpSpawn, B: 15}, 3)
}

func TestRegistersThatAreAlikeAreRead(t *testing.T) {
	for _, s := range []string{
		"\x10\x00\x00", "\x11\x0f\x0f", "\x17\x07\x07",
		"\x14\x00\x00\x00\x00", "\x14\x3f\xe8\x07\x0f\x0f",
		"\x15\x00\x02\x00\x00", "\x15\x00\x03\x01\x02\x01", "\x15\x01\x08\x00\x01\x02\x03\x04\x05\x06\x00",
	} {
		wantNoRead(t, octets.NewReader(s), api.ErrArg, 0, len(s))
		wantNoRead(t, octets.NewReader(s+"\x00\x00"), api.ErrArg, 0, len(s))
		wantNoRead(t, part(t, s), api.ErrArg, 5, 5+len(s))
	}
	wantRead(t, octets.NewReader("\x12\x03\x03"), api.Insn{Op: api.OpSelect, B: 3, C: 3}, 3)
	wantRead(t, octets.NewReader("\x13\x03\x02\x03\x03"), api.Insn{Op: api.OpBranch, B: 3, L: []int{3, 3}}, 5)
	wantRead(t, octets.NewReader("\x14\x03\x04\x03\x04"), api.Insn{Op: api.OpNew, B: 3, D: 4, L: []int{3, 4}}, 5)
}

// The first fault that is met is told, also where what is read already may not be.
func TestMoreThanOneThingIsWrong(t *testing.T) {
	for _, c := range []struct {
		bytes     string
		code      api.Errno
		at, place int
	}{
		{"\x19\x80\x00", api.ErrOp, 0, 1},
		{"\x10\x10\x80\x00", api.ErrLong, 1, 2},
		{"\x10\x80\x00\x10", api.ErrForm, 1, 3},
		{"\x10\x01\x10", api.ErrLong, 2, 3},
		{"\x10\x01\x81", api.ErrShort, 3, 3},
		{"\x12\x10\x08", api.ErrLong, 1, 2},
		{"\x12\x0f\x08", api.ErrLong, 2, 3},
		{"\x13\x10\x00", api.ErrLong, 1, 2},
		{"\x13\x10\x09", api.ErrLong, 1, 2},
		{"\x13\x00\x09\x80\x00", api.ErrLong, 2, 3},
		{"\x13\x00\x02\x80\x01\x80\x00", api.ErrLong, 3, 5},
		{"\x13\x00\x02\x01\x80\x00", api.ErrForm, 4, 6},
		{"\x14\x40\xe9\x07\x10\x10", api.ErrLong, 1, 2},
		{"\x14\x00\xe9\x07\x01\x01", api.ErrLong, 2, 4},
		{"\x14\x00\x00\x01\x10", api.ErrLong, 4, 5},
		{"\x14\x00\x00\x01", api.ErrShort, 4, 4},
		{"\x15\x10\x09", api.ErrLong, 1, 2},
		{"\x15\x00\x03\x01\x01\x10", api.ErrLong, 5, 6},
		{"\x15\x00\x03\x01\x01", api.ErrShort, 5, 5},
		{"\x15\x00\x03\x01\x01\x80\x00", api.ErrForm, 5, 7},
		{"\x15\x00\x03\x10\x01\x01", api.ErrLong, 3, 4},
	} {
		wantNoRead(t, octets.NewReader(c.bytes), c.code, c.at, c.place)
		wantNoRead(t, part(t, c.bytes), c.code, 5+c.at, 5+c.place)
	}
}

// A part's end is the end of what is read there, though bytes stand behind it.
func TestReadInAPart(t *testing.T) {
	p := part(t, "\x09\x03\x0b\x7f\x13\x00\x02\x04")
	wantRead(t, p, api.Insn{Op: api.OpGet, B: 3}, 7)
	wantRead(t, p, api.Insn{Op: api.OpJump, L: []int{127}}, 9)
	wantNoRead(t, p, api.ErrShort, 13, 13)
	wantNoRead(t, p, api.ErrShort, 13, 13)
	wantNoRead(t, part(t, ""), api.ErrShort, 5, 5)
}

func TestAReaderThatIsNone(t *testing.T) {
	wantNoRead(t, nil, api.ErrNil, 0, 0)
	wantNoRead(t, new(octets.Reader), api.ErrShort, 0, 0)
}

func TestWhatIsReadIsNew(t *testing.T) {
	r := octets.NewReader("\x13\x00\x02\x04\x09\x13\x00\x02\x04\x09")
	first, err := insn.Read(r)
	second, bad := insn.Read(r)
	if err != nil || bad != nil {
		t.Fatal(err, bad)
	}
	first.L[0], first.L[1] = 1, 2
	_ = append(first.L, 3)
	if want := []int{4, 9}; !slices.Equal(second.L, want) {
		t.Errorf("%v, but %v is asked for", second.L, want)
	}
}

// readPlainly is what Read must make of a reader's bytes, by the chapter's words, op by op.
func readPlainly(r *octets.Reader) (api.Insn, error) {
	at := r.Place()
	op, err := r.Byte()
	if err != nil {
		return api.Insn{}, err
	}
	if op > 24 {
		return api.Insn{}, &api.Fault{Code: api.ErrOp, At: at}
	}
	x := api.Insn{Op: int(op)}
	small := func(most int) (n int) {
		if err == nil {
			n, err = leb.Small(r, most)
		}
		return n
	}
	list := func(count, most int) {
		for range count {
			x.L = append(x.L, small(most))
		}
	}
	switch x.Op {
	case api.OpPush:
		x.A, err = leb.S(r)
	case api.OpGet, api.OpPut, api.OpSend, api.OpRecv, api.OpClose:
		x.B = small(15)
	case api.OpGive, api.OpTake, api.OpMove:
		x.B, x.C = small(15), small(15)
	case api.OpJump, api.OpJz:
		list(1, 127)
	case api.OpSelect:
		x.B, x.C = small(15), small(7)
	case api.OpBranch:
		x.B = small(15)
		list(small(8), 127)
	case api.OpNew:
		x.B, x.D = small(63), small(1000)
		list(2, 15)
	case api.OpSpawn:
		x.B = small(15)
		list(small(8), 15)
	}
	if err == nil && mayBe(x) != api.OK {
		err = &api.Fault{Code: api.ErrArg, At: at}
	}
	if err != nil {
		return api.Insn{}, err
	}
	return x, nil
}

// wantAsTold holds what is read from some bytes against the chapter's words, and what is read against the bytes that are laid of it. It tells whether an instruction was read.
func wantAsTold(t *testing.T, s string) bool {
	t.Helper()
	told := octets.NewReader(s)
	x, err := readPlainly(told)
	r := octets.NewReader(s)
	if err != nil {
		f := err.(*api.Fault)
		wantNoRead(t, r, f.Code, f.At, told.Place())
	} else {
		wantRead(t, r, x, told.Place())
		wantBytes(t, x, s[:told.Place()])
	}
	if t.Failed() {
		t.Fatalf("of % x", s)
	}
	return err == nil
}

// P9.3

func TestKnownInstructionsComeBack(t *testing.T) {
	w, l := octets.NewWriter(), known()
	for _, k := range l {
		if e := insn.Put(w, k.x); e != api.OK {
			t.Fatal(e)
		}
	}
	r, place := octets.NewReader(w.Text()), 0
	for _, k := range l {
		place += len(k.bytes)
		wantRead(t, r, k.x, place)
	}
	if err := r.End(); err != nil {
		t.Error(err)
	}
}

func TestManyInstructionsComeBack(t *testing.T) {
	row := tables.Row(9)
	for range 20000 {
		x := codes.Mixed(&row)
		was := codes.Deep(x)
		wantCheck(t, x, api.OK)
		s := bytesOf(t, x)
		wantRead(t, octets.NewReader(s), was, len(s))
		for cut := range len(s) {
			wantNoRead(t, octets.NewReader(s[:cut]), api.ErrShort, cut, cut)
		}
		if t.Failed() {
			t.Fatal(was)
		}
	}
}

// Of many instructions' bytes, put in order, none is a beginning of the one behind it, unless that one is the same.
func TestNoBeginningIsAnotherOnes(t *testing.T) {
	row := tables.Row(3)
	var all []string
	for _, k := range known() {
		all = append(all, bytesOf(t, k.x))
	}
	for range 20000 {
		all = append(all, bytesOf(t, codes.Mixed(&row)))
	}
	slices.Sort(all)
	all = slices.Compact(all)
	for i := 1; i < len(all); i++ {
		if strings.HasPrefix(all[i], all[i-1]) {
			t.Fatalf("% x is a beginning of % x", all[i-1], all[i])
		}
	}
}

// All rows of up to three bytes out of these, behind each op and some bytes that are none.
func TestOnlyItsOwnBytesAreRead(t *testing.T) {
	picked := []byte{0, 1, 2, 3, 7, 8, 9, 15, 16, 63, 64, 127, 128, 129, 135, 232, 255}
	for op := range 28 {
		if op == 27 {
			op = 255
		}
		wantAsTold(t, string([]byte{byte(op)}))
		for _, a := range picked {
			wantAsTold(t, string([]byte{byte(op), a}))
			for _, b := range picked {
				wantAsTold(t, string([]byte{byte(op), a, b}))
				for _, c := range picked {
					wantAsTold(t, string([]byte{byte(op), a, b, c}))
				}
			}
		}
	}
}

// An instruction's bytes, of which some are others, or are lacking, or stand there twice.
func TestBytesThatWereSpoilt(t *testing.T) {
	row, read := tables.Row(5), 0
	for range 100000 {
		s := []byte(bytesOf(t, codes.Mixed(&row)))
		for range 1 + row.Below(3) {
			i := row.Below(len(s))
			switch row.Below(6) {
			case 0:
				s = slices.Insert(s, i, s[i])
			case 1:
				if len(s) > 1 {
					s = slices.Delete(s, i, i+1)
				}
			case 2:
				s[i] = byte(row.Below(256))
			default:
				s[i] += byte(row.Below(5) - 2)
			}
		}
		if wantAsTold(t, string(s)) {
			read++
		}
	}
	if read < 10000 || read > 90000 {
		t.Errorf("%d of them are read", read)
	}
}
