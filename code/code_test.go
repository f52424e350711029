package code

import (
	"bytes"
	"encoding/binary"
	"math"
	"slices"
	"strings"
	"testing"

	"firebreak/api"
)

// said is the document's table of the instructions, by their numbers: which fields each has.
var said = []string{
	api.OpExit: "", api.OpSet: "A Imm", api.OpMove: "A B",
	api.OpAdd: "A B C", api.OpSub: "A B C", api.OpMul: "A B C", api.OpDiv: "A B C", api.OpRem: "A B C", api.OpAnd: "A B C",
	api.OpOr: "A B C", api.OpXor: "A B C", api.OpShl: "A B C", api.OpShr: "A B C", api.OpLess: "A B C", api.OpEqual: "A B C",
	api.OpFAdd: "A B C", api.OpFSub: "A B C", api.OpFMul: "A B C", api.OpFDiv: "A B C", api.OpFLess: "A B C",
	api.OpToFloat: "A B", api.OpToInt: "A B",
	api.OpJump: "Imm", api.OpIf: "A Imm",
	api.OpSend: "A B C", api.OpRecv: "A B", api.OpTry: "A B",
	api.OpTimer: "A", api.OpSleep: "A",
	api.OpLock: "Imm", api.OpUnlock: "Imm",
	api.OpOut: "A", api.OpNow: "A", api.OpSelf: "A",
}

// strangers are numbers of no instruction.
var strangers = []int{-1, -2, -34, -256, api.Ops, api.Ops + 1, 64, 127, 128, 255, 256, 257, 1 << 31, math.MaxInt, math.MaxInt - 1, math.MinInt, math.MinInt + 1}

// names tells whether the document's table names a field for an instruction.
func names(op int, field string) bool {
	return slices.Contains(strings.Fields(said[op]), field)
}

// wanted is P6.2 said plainly; and at which byte what is wrong begins.
func wanted(x api.Ins, n, locks int) (api.Errno, int) {
	if x.Op < 0 || x.Op >= len(said) {
		return api.ErrOp, 0
	}
	for i, r := range []int{x.A, x.B, x.C} {
		has := names(x.Op, string(rune('A'+i)))
		if !has && r != 0 {
			return api.ErrUnused, 1 + i
		}
		if has && !slices.Contains([]int{0, 1, 2, 3, 4, 5, 6, 7}, r) {
			return api.ErrReg, 1 + i
		}
	}
	switch {
	case !names(x.Op, "Imm") && x.Imm != 0:
		return api.ErrUnused, 4
	case (x.Op == 22 || x.Op == 23) && (x.Imm < 0 || x.Imm > int64(n)):
		return api.ErrJump, 4
	case (x.Op == 29 || x.Op == 30) && (x.Imm < 0 || x.Imm > int64(locks)-1 || locks < 1):
		return api.ErrLock, 4
	}
	return api.OK, 0
}

// lawful is an instruction of each kind that may be, each field as great as it may be, in a program of n instructions.
func lawful(op int, n int64) api.Ins {
	x := api.Ins{Op: op}
	if names(op, "A") {
		x.A = 7
	}
	if names(op, "B") {
		x.B = 7
	}
	if names(op, "C") {
		x.C = 7
	}
	switch op {
	case api.OpSet:
		x.Imm = math.MaxInt64
	case api.OpJump, api.OpIf:
		x.Imm = n
	case api.OpLock, api.OpUnlock:
		x.Imm = 7
	}
	return x
}

// lawfuls is a program of n instructions, of all kinds in turn.
func lawfuls(n int) []api.Ins {
	l := make([]api.Ins, n)
	for i := range l {
		l[i] = lawful(i%api.Ops, int64(n))
	}
	return l
}

// chance makes numbers that look like chance, the same ones each time.
type chance uint64

func (c *chance) next(n int) int {
	*c = *c*6364136223846793005 + 1442695040888963407
	return int(uint64(*c>>33) % uint64(n))
}

// program is one that may be, of n instructions.
func (c *chance) program(n int) []api.Ins {
	l := make([]api.Ins, n)
	for i := range l {
		x := lawful(c.next(api.Ops), int64(n))
		x.A, x.B, x.C = x.A&c.next(8), x.B&c.next(8), x.C&c.next(8)
		switch x.Op {
		case api.OpSet:
			x.Imm = int64(c.next(1<<30))<<34 ^ int64(c.next(1<<30))<<c.next(34)
		case api.OpJump, api.OpIf:
			x.Imm = int64(c.next(n + 1))
		case api.OpLock, api.OpUnlock:
			x.Imm = int64(c.next(8))
		}
		l[i] = x
	}
	return l
}

// plain is P6.4 said plainly.
func plain(l []api.Ins) []byte {
	b := []byte{}
	for _, x := range l {
		b = append(b, byte(x.Op), byte(x.A), byte(x.B), byte(x.C))
		b = binary.LittleEndian.AppendUint64(b, uint64(x.Imm))
	}
	return b
}

// P6.1

func TestFields(t *testing.T) {
	if len(said) != api.Ops {
		t.Fatalf("%d instructions are told, not %d", len(said), api.Ops)
	}
	for op := range api.Ops {
		a, b, c, imm := Fields(op)
		if a != names(op, "A") || b != names(op, "B") || c != names(op, "C") || imm != names(op, "Imm") {
			t.Errorf("Fields(%d): %v, %v, %v, %v, not %q", op, a, b, c, imm, said[op])
		}
	}
}

func TestFieldsOfNoInstruction(t *testing.T) {
	for _, op := range strangers {
		if a, b, c, imm := Fields(op); a || b || c || imm {
			t.Errorf("Fields(%d): %v, %v, %v, %v", op, a, b, c, imm)
		}
	}
}

// P6.2

func TestCheck(t *testing.T) {
	registers := []int{0, 1, 7, 8, -1, math.MinInt, math.MaxInt, 256}
	numbers := []int64{0, 1, 2, 3, 7, 8, 9, 255, 256, 257, -1, -2, 1 << 32, 1 << 40, math.MaxInt64, math.MinInt64}
	counts := [][2]int{{0, 0}, {1, 1}, {2, 8}, {3, 3}, {7, 2}, {8, 9}, {256, 256}, {-1, -1}, {0, 8}, {256, 0}, {math.MaxInt, math.MaxInt}, {math.MinInt, math.MinInt}, {1 << 40, 1 << 40}}
	for op := -1; op <= api.Ops; op++ {
		for _, a := range registers {
			for _, b := range registers {
				for _, c := range registers {
					for _, imm := range numbers {
						for _, n := range counts {
							x := api.Ins{Op: op, A: a, B: b, C: c, Imm: imm}
							want, _ := wanted(x, n[0], n[1])
							if e := Check(x, n[0], n[1]); e != want {
								t.Fatalf("Check(%v, %d, %d): %d, not %d", x, n[0], n[1], e, want)
							}
						}
					}
				}
			}
		}
	}
}

func TestCheckTakesAllThatMayBe(t *testing.T) {
	for op := range api.Ops {
		if x := lawful(op, 5); Check(x, 5, api.MaxLocks) != api.OK {
			t.Errorf("Check(%v, 5, 8): %d", x, Check(x, 5, api.MaxLocks))
		}
		if x := (api.Ins{Op: op}); Check(x, 0, 1) != api.OK {
			t.Errorf("Check(%v, 0, 1): %d", x, Check(x, 0, 1))
		}
	}
	for _, imm := range []int64{0, -1, math.MinInt64, math.MaxInt64} {
		x := api.Ins{Op: api.OpSet, Imm: imm}
		if e := Check(x, -1, -1); e != api.OK {
			t.Errorf("Check(%v, -1, -1): %d", x, e)
		}
	}
}

func TestCheckOfNoInstruction(t *testing.T) {
	for _, op := range strangers {
		for _, x := range []api.Ins{{Op: op}, {Op: op, A: 8}, {Op: op, C: -1, Imm: -1}} {
			if e := Check(x, 256, 8); e != api.ErrOp {
				t.Errorf("Check(%v, 256, 8): %d", x, e)
			}
		}
	}
}

// Each line has several faults: the first field's is told.
func TestCheckTellsTheFirst(t *testing.T) {
	for _, c := range []struct {
		x    api.Ins
		want api.Errno
	}{
		{api.Ins{Op: api.OpJump, A: 1, B: 1, C: 1, Imm: 9}, api.ErrUnused},
		{api.Ins{Op: api.OpIf, A: 8, B: 1, C: 1, Imm: 9}, api.ErrReg},
		{api.Ins{Op: api.OpIf, A: 7, B: 1, C: 1, Imm: 9}, api.ErrUnused},
		{api.Ins{Op: api.OpIf, A: 7, C: 8, Imm: 9}, api.ErrUnused},
		{api.Ins{Op: api.OpIf, A: 7, Imm: 9}, api.ErrJump},
		{api.Ins{Op: api.OpMove, A: 7, B: 8, C: 1, Imm: 1}, api.ErrReg},
		{api.Ins{Op: api.OpMove, A: 7, B: 7, C: 9, Imm: 1}, api.ErrUnused},
		{api.Ins{Op: api.OpAdd, C: 8, Imm: 1}, api.ErrReg},
		{api.Ins{Op: api.OpAdd, C: 7, Imm: 1}, api.ErrUnused},
		{api.Ins{Op: api.OpUnlock, C: 9, Imm: 9}, api.ErrUnused},
		{api.Ins{Op: api.OpUnlock, Imm: 9}, api.ErrLock},
		{api.Ins{Op: api.OpExit, A: -1, Imm: 9}, api.ErrUnused},
	} {
		if e := Check(c.x, 3, 3); e != c.want {
			t.Errorf("Check(%v, 3, 3): %d, not %d", c.x, e, c.want)
		}
	}
}

// P6.3

func may(t *testing.T, l []api.Ins, locks int, want api.Errno, wantAt int) {
	t.Helper()
	if e, at := May(l, locks); e != want || at != wantAt {
		t.Errorf("May(%d instructions, %d): %d, %d, not %d, %d", len(l), locks, e, at, want, wantAt)
	}
}

func TestMay(t *testing.T) {
	for _, n := range []int{0, 1, 2, api.Ops, 100, 255, 256} {
		may(t, lawfuls(n), api.MaxLocks, api.OK, 0)
	}
	may(t, nil, 0, api.OK, 0)
	for _, n := range []int{257, 258, 1000} {
		may(t, lawfuls(n), api.MaxLocks, api.ErrMany, 256)
	}
}

func TestMayOfLocks(t *testing.T) {
	for _, locks := range []int{-1, -2, 9, 10, 256, math.MinInt, math.MaxInt} {
		may(t, nil, locks, api.ErrArg, 0)
		may(t, lawfuls(257), locks, api.ErrArg, 0)
		may(t, []api.Ins{{}, {Op: -1}}, locks, api.ErrArg, 0)
	}
	for locks := range api.MaxLocks + 1 {
		for _, op := range []int{api.OpLock, api.OpUnlock} {
			if locks > 0 {
				may(t, []api.Ins{{}, {Op: op, Imm: int64(locks) - 1}}, locks, api.OK, 0)
			}
			may(t, []api.Ins{{}, {Op: op, Imm: int64(locks)}}, locks, api.ErrLock, 1)
			may(t, []api.Ins{{}, {Op: op, Imm: -1}}, locks, api.ErrLock, 1)
		}
	}
}

func TestMayTellsTheFirst(t *testing.T) {
	wrong := []struct {
		x    api.Ins
		want api.Errno
	}{
		{api.Ins{Op: -1}, api.ErrOp}, {api.Ins{Op: api.Ops}, api.ErrOp}, {api.Ins{Op: api.OpSet, A: 8}, api.ErrReg},
		{api.Ins{Op: api.OpExit, C: 1}, api.ErrUnused}, {api.Ins{Op: api.OpJump, Imm: 257}, api.ErrJump}, {api.Ins{Op: api.OpLock, Imm: 8}, api.ErrLock},
	}
	for at := range 256 {
		for _, w := range wrong {
			l := lawfuls(256)
			l[at] = w.x
			may(t, l, 8, w.want, at)
			if at < 255 {
				l[255] = api.Ins{Op: -1}
				l[at+1] = api.Ins{Op: api.OpOut, B: 1}
				may(t, l, 8, w.want, at)
			}
			may(t, append(l, api.Ins{}), 8, api.ErrMany, 256)
		}
	}
}

func TestMayOfJumps(t *testing.T) {
	for n := 1; n <= 256; n++ {
		for _, op := range []int{api.OpJump, api.OpIf} {
			l := make([]api.Ins, n)
			l[n/2] = api.Ins{Op: op, Imm: int64(n)}
			may(t, l, 0, api.OK, 0)
			l[n/2].Imm++
			may(t, l, 0, api.ErrJump, n/2)
			l[n/2].Imm = -1
			may(t, l, 0, api.ErrJump, n/2)
		}
	}
}

// P6.4

func TestEncode(t *testing.T) {
	var c chance
	for n := range api.MaxCode + 1 {
		for _, l := range [][]api.Ins{lawfuls(n), c.program(n)} {
			if b, e, at := Encode(l); e != api.OK || at != 0 || !bytes.Equal(b, plain(l)) {
				t.Fatalf("Encode(%v): %x, %d, %d", l, b, e, at)
			}
		}
	}
}

func TestEncodeImm(t *testing.T) {
	for _, c := range []struct {
		imm  int64
		want []byte
	}{
		{0, []byte{0, 0, 0, 0, 0, 0, 0, 0}}, {1, []byte{1, 0, 0, 0, 0, 0, 0, 0}}, {256, []byte{0, 1, 0, 0, 0, 0, 0, 0}},
		{0x0102030405060708, []byte{8, 7, 6, 5, 4, 3, 2, 1}}, {-1, []byte{255, 255, 255, 255, 255, 255, 255, 255}}, {-2, []byte{254, 255, 255, 255, 255, 255, 255, 255}},
		{math.MaxInt64, []byte{255, 255, 255, 255, 255, 255, 255, 127}}, {math.MinInt64, []byte{0, 0, 0, 0, 0, 0, 0, 128}},
	} {
		b, e, at := Encode([]api.Ins{{Op: api.OpSet, A: 5, Imm: c.imm}})
		if e != api.OK || at != 0 || !bytes.Equal(b, append([]byte{1, 5, 0, 0}, c.want...)) {
			t.Errorf("Encode of the number %d: %x, %d, %d", c.imm, b, e, at)
		}
	}
}

func TestEncodeRefuses(t *testing.T) {
	for _, c := range []struct {
		l    []api.Ins
		want api.Errno
		at   int
	}{
		{make([]api.Ins, 257), api.ErrMany, 256},
		{make([]api.Ins, 5000), api.ErrMany, 256},
		{[]api.Ins{{Op: -1}}, api.ErrOp, 0},
		{[]api.Ins{{}, {Op: 256}}, api.ErrOp, 1},
		{[]api.Ins{{}, {}, {Op: api.OpSet, A: 256}}, api.ErrReg, 2},
		{[]api.Ins{{}, {}, {Op: api.OpSet, B: 256}}, api.ErrUnused, 2},
		{[]api.Ins{{}, {Op: api.OpOut, Imm: 1}, {Op: -1}}, api.ErrUnused, 1},
		{[]api.Ins{{}, {Op: api.OpJump, Imm: 3}}, api.ErrJump, 1},
		{[]api.Ins{{Op: api.OpLock, Imm: 7}, {Op: api.OpLock, Imm: 8}}, api.ErrLock, 1},
	} {
		if b, e, at := Encode(c.l); len(b) != 0 || e != c.want || at != c.at {
			t.Errorf("Encode of %d: %x, %d, %d, not %d, %d", len(c.l), b, e, at, c.want, c.at)
		}
	}
}

// P6.5

func decode(t *testing.T, b []byte) {
	t.Helper()
	want, place, l := api.OK, 0, []api.Ins{}
	switch {
	case len(b) > 3072:
		want, place = api.ErrMany, 3072
	case len(b)%12 != 0:
		want, place = api.ErrShort, len(b)
	default:
		for i := 0; i < len(b) && want == api.OK; i += 12 {
			x := api.Ins{Op: int(b[i]), A: int(b[i+1]), B: int(b[i+2]), C: int(b[i+3]), Imm: int64(binary.LittleEndian.Uint64(b[i+4:]))}
			l = append(l, x)
			if e, at := wanted(x, len(b)/12, 8); e != api.OK {
				want, place = e, i+at
			}
		}
	}
	if want != api.OK {
		l = nil
	}
	if m, e, at := Decode(b); e != want || at != place || !slices.Equal(m, l) {
		t.Errorf("Decode of %d bytes: %v, %d, %d, not %v, %d, %d", len(b), m, e, at, l, want, place)
	}
}

// Each byte of an instruction of each kind is changed into each other one, in a program of three.
func TestDecode(t *testing.T) {
	for op := range api.Ops {
		b := plain([]api.Ins{{}, lawful(op, 3), {Op: api.OpJump, Imm: 1}})
		decode(t, b)
		for at := 12; at < 24; at++ {
			for v := range 256 {
				changed := bytes.Clone(b)
				changed[at] = byte(v)
				decode(t, changed)
			}
		}
	}
}

// All pairs of an instruction's bytes are changed: the first that is wrong is told.
func TestDecodeTellsTheFirst(t *testing.T) {
	for op := range api.Ops + 1 {
		for i := range 12 {
			for j := range i {
				for _, v := range []byte{0, 1, 8, 255} {
					b := plain([]api.Ins{{Op: op}, {Op: op}})
					b[12+i], b[12+j] = v, 8
					decode(t, b)
					b[i] = 255
					decode(t, b)
				}
			}
		}
	}
}

// A list of bytes is cut at each place: too many are told ahead of twelves that are not whole, and these ahead of what stands in them.
func TestDecodeCut(t *testing.T) {
	for _, b := range [][]byte{make([]byte, 4000), bytes.Repeat([]byte{255}, 4000), plain(lawfuls(256))} {
		for n := range len(b) + 1 {
			decode(t, b[:n])
		}
	}
	decode(t, nil)
}

// The number of a jump is held against how many instructions there are, each lock against as many as may be.
func TestDecodeJumpsAndLocks(t *testing.T) {
	for _, n := range []int{1, 2, 255, 256} {
		for imm := int64(-1); imm < 260; imm++ {
			for _, op := range []int{api.OpJump, api.OpIf, api.OpLock, api.OpUnlock} {
				l := make([]api.Ins, n)
				l[n-1] = api.Ins{Op: op, Imm: imm}
				decode(t, plain(l))
			}
		}
	}
}

// P6.6

func TestRoundTrip(t *testing.T) {
	var c chance
	for n := range api.MaxCode + 1 {
		l := c.program(n)
		b, _, _ := Encode(l)
		if m, e, at := Decode(b); e != api.OK || at != 0 || !slices.Equal(m, l) {
			t.Fatalf("Decode(Encode(%v)): %v, %d, %d", l, m, e, at)
		}
	}
}

// Bytes of all kinds: what is taken is told again as it was.
func TestTakenIsTold(t *testing.T) {
	var c chance
	taken := 0
	for range 20000 {
		b := plain(c.program(1 + c.next(4)))
		for range c.next(4) {
			b[c.next(len(b))] = byte(c.next(1 << c.next(9)))
		}
		l, e, _ := Decode(b)
		if e != api.OK {
			continue
		}
		taken++
		if told, e, at := Encode(l); e != api.OK || at != 0 || !bytes.Equal(told, b) {
			t.Fatalf("Encode(Decode(%x)): %x, %d, %d", b, told, e, at)
		}
	}
	if taken < 5000 || taken > 19000 {
		t.Errorf("%d of 20000 were taken", taken)
	}
}

// R3, R4

func TestMemory(t *testing.T) {
	l := make([]api.Ins, 3, 9)
	copy(l[:9], lawfuls(9))
	l[2] = api.Ins{Op: api.OpJump, Imm: 3}
	was := slices.Clone(l[:9])
	b, _, _ := Encode(l)
	May(l, 8)
	if !slices.Equal(l[:9], was) {
		t.Errorf("the program was changed: %v", l[:9])
	}
	clear(l[:9])
	if !bytes.Equal(b, plain(was[:3])) {
		t.Errorf("the bytes hang on the program: %x", b)
	}

	room := append(plain(was[:3]), 1, 2, 3)
	held := bytes.Clone(room)
	m, _, _ := Decode(room[:36])
	if !bytes.Equal(room, held) {
		t.Errorf("the bytes were changed: %x", room)
	}
	clear(room)
	if !slices.Equal(m, was[:3]) {
		t.Errorf("the program hangs on the bytes: %v", m)
	}
}

func TestAnswersAreApart(t *testing.T) {
	l := lawfuls(4)
	b1, _, _ := Encode(l)
	b2, _, _ := Encode(l)
	clear(b1[:cap(b1)])
	if !bytes.Equal(b2, plain(l)) {
		t.Errorf("two answers of Encode share memory: %x", b2)
	}
	m1, _, _ := Decode(b2)
	m2, _, _ := Decode(b2)
	clear(m1[:cap(m1)])
	if !slices.Equal(m2, l) {
		t.Errorf("two answers of Decode share memory: %v", m2)
	}
	Decode([]byte{255, 1, 2})
	if m3, _, _ := Decode(b2); !slices.Equal(m3, l) {
		t.Errorf("Decode, asked again: %v", m3)
	}
}

// The chapter's examples

func TestExamplesOfFields(t *testing.T) {
	for _, c := range []struct {
		op   int
		want [4]bool
	}{
		{api.OpSend, [4]bool{true, true, true, false}}, {api.OpIf, [4]bool{true, false, false, true}},
		{api.OpExit, [4]bool{}}, {api.Ops, [4]bool{}}, {-1, [4]bool{}},
	} {
		a, b, d, imm := Fields(c.op)
		if got := [4]bool{a, b, d, imm}; got != c.want {
			t.Errorf("Fields(%d): %v, not %v", c.op, got, c.want)
		}
	}
}

func TestExamplesOfCheck(t *testing.T) {
	for _, c := range []struct {
		x        api.Ins
		n, locks int
		want     api.Errno
	}{
		{api.Ins{Op: api.OpSet, A: 7, Imm: -1}, 1, 0, api.OK},
		{api.Ins{Op: api.OpSet, A: 8}, 1, 0, api.ErrReg},
		{api.Ins{Op: api.OpSet, A: 1, B: 1}, 1, 0, api.ErrUnused},
		{api.Ins{Op: api.Ops}, 1, 0, api.ErrOp},
		{api.Ins{Op: api.OpMove, A: -1, C: 5}, 1, 0, api.ErrReg},
		{api.Ins{Op: api.OpJump, Imm: 3}, 3, 0, api.OK},
		{api.Ins{Op: api.OpJump, Imm: 4}, 3, 0, api.ErrJump},
		{api.Ins{Op: api.OpIf, A: 9, Imm: 9}, 3, 0, api.ErrReg},
		{api.Ins{Op: api.OpLock, Imm: 2}, 3, 3, api.OK},
		{api.Ins{Op: api.OpLock, Imm: 2}, 3, 2, api.ErrLock},
	} {
		if e := Check(c.x, c.n, c.locks); e != c.want {
			t.Errorf("Check(%v, %d, %d): %d, not %d", c.x, c.n, c.locks, e, c.want)
		}
	}
	may(t, nil, 0, api.OK, 0)
	may(t, nil, -1, api.ErrArg, 0)
	may(t, nil, 9, api.ErrArg, 0)
	may(t, make([]api.Ins, 257), 0, api.ErrMany, 256)
}

func TestExamplesOfBytes(t *testing.T) {
	l := []api.Ins{{Op: api.OpSet, A: 1, Imm: 258}, {Op: api.OpJump}}
	want := append([]byte{1, 1, 0, 0, 2, 1, 0, 0, 0, 0, 0, 0, 0x16}, make([]byte, 11)...)
	if b, e, at := Encode(l); e != api.OK || at != 0 || !bytes.Equal(b, want) {
		t.Errorf("Encode: %x, %d, %d", b, e, at)
	}
	with := func(first ...byte) []byte { return append(first, make([]byte, 12-len(first))...) }
	for _, c := range []struct {
		b    []byte
		l    []api.Ins
		want api.Errno
		at   int
	}{
		{with(), []api.Ins{{Op: api.OpExit}}, api.OK, 0},
		{make([]byte, 11), nil, api.ErrShort, 11},
		{with(1, 8), nil, api.ErrReg, 1},
		{with(0, 0, 0, 0, 1), nil, api.ErrUnused, 4},
	} {
		if l, e, at := Decode(c.b); !slices.Equal(l, c.l) || e != c.want || at != c.at {
			t.Errorf("Decode(%x): %v, %d, %d, not %v, %d, %d", c.b, l, e, at, c.l, c.want, c.at)
		}
	}
}
