package cpu

import (
	"math"
	"math/rand"
	"slices"
	"strings"
	"testing"

	"firebreak/alu"
	"firebreak/api"
	"firebreak/flt"
)

const (
	most  = math.MaxInt64
	least = math.MinInt64
)

// has tells the fields of each instruction, as DOC.md's table names them.
var has = [api.Ops]string{
	api.OpExit: "", api.OpSet: "AI", api.OpMove: "AB",
	api.OpAdd: "ABC", api.OpSub: "ABC", api.OpMul: "ABC", api.OpDiv: "ABC", api.OpRem: "ABC", api.OpAnd: "ABC",
	api.OpOr: "ABC", api.OpXor: "ABC", api.OpShl: "ABC", api.OpShr: "ABC", api.OpLess: "ABC", api.OpEqual: "ABC",
	api.OpFAdd: "ABC", api.OpFSub: "ABC", api.OpFMul: "ABC", api.OpFDiv: "ABC", api.OpFLess: "ABC", api.OpToFloat: "AB", api.OpToInt: "AB",
	api.OpJump: "I", api.OpIf: "AI", api.OpSend: "ABC", api.OpRecv: "AB", api.OpTry: "AB",
	api.OpTimer: "A", api.OpSleep: "A", api.OpLock: "I", api.OpUnlock: "I", api.OpOut: "A", api.OpNow: "A", api.OpSelf: "A",
}

// numbers are those that a register may hold: around 0, at the edges, beyond 32 bits, and bits of floats.
var numbers = []int64{
	0, 1, -1, 2, 3, -3, 7, -8, 63, 64, 65, 1 << 31, 1 << 32, 1<<32 + 1, -1 << 32, 1 << 53, most, most - 1, least, least + 1,
	0x3ff0000000000000, 0x3ff8000000000000, -0x4010000000000000, 0x7ff0000000000000, -0x10000000000000, 0x7ff8000000000000, 0x7ff0000000000001, -1 << 51,
}

// nowhere are program counters that are none of the places of n instructions.
func nowhere(n int) []int {
	return []int{n, n + 1, n + 255, n + 1<<31, 1<<32 + n, -1, -2, -n - 1, -1 << 31, -1 << 32, 1 << 32, 1 << 62, math.MinInt, math.MinInt + 1, math.MaxInt - 1, math.MaxInt}
}

// notRegisters are fields that name none.
var notRegisters = []int{-1, -2, -8, 8, 9, 15, 16, 255, 256, 1 << 31, 1 << 32, 1<<32 + 1, -1 << 32, math.MaxInt, math.MaxInt - 7, math.MinInt, math.MinInt + 1}

// core is one of which no two registers hold the same, and none 0.
func core(pc int) Core {
	return Core{PC: pc, Regs: [api.MaxRegs]int64{100, 7, 3, -5, 0x3ff8000000000000, 1 << 40, least, most}}
}

// with is a core with another number in one register.
func (c Core) with(r int, v int64) Core {
	c.Regs[r] = v
	return c
}

// at is a core with another program counter.
func (c Core) at(pc int) Core {
	c.PC = pc
	return c
}

// program is one of n instructions, x at one place, and Out 7 at all others, which a Step must not look at.
func program(n, place int, x api.Ins) []api.Ins {
	l := slices.Repeat([]api.Ins{{Op: api.OpOut, A: 7}}, n)
	l[place] = x
	return l
}

// check asks what a Step answers, twice, and that it leaves the code as it was.
func check(t *testing.T, c Core, l []api.Ins, tick int64, self int, to Core, want Want) {
	t.Helper()
	ahead, room := slices.Clone(l), slices.Clone(l[:cap(l)])
	for range 2 {
		if got, w := Step(c, l, tick, self); got != to || w != want {
			t.Errorf("Step(%v, %v, %d, %d): %v, %v, not %v, %v", c, shown(c, l), tick, self, got, w, to, want)
		}
	}
	if !slices.Equal(l, ahead) || !slices.Equal(l[:cap(l)], room) {
		t.Errorf("Step(%v, %v): changed the code", c, shown(c, l))
	}
}

// shown is the instruction at a core's program counter, or how many there are.
func shown(c Core, l []api.Ins) any {
	if c.PC >= 0 && c.PC < len(l) {
		return l[c.PC]
	}
	return len(l)
}

// exits asks that a Step ends the process, and leaves its core as it is.
func exits(t *testing.T, c Core, l []api.Ins) {
	t.Helper()
	check(t, c, l, 12, 4, c, Want{Kind: WantExit})
}

// bits are those of a float.
func bits(x float64) int64 { return int64(math.Float64bits(x)) }

// P13.1: Step, each instruction by itself

func TestWantsAreCounted(t *testing.T) {
	for i, kind := range []int{WantNone, WantExit, WantSend, WantRecv, WantTry, WantTimer, WantSleep, WantLock, WantUnlock, WantOut} {
		if kind != i {
			t.Errorf("the want %d is %d", i, kind)
		}
	}
}

func TestExamples(t *testing.T) {
	c := Core{}.with(1, 7).with(2, 3)
	six := func(x api.Ins) []api.Ins { return program(6, 0, x) }
	check(t, c, six(api.Ins{Op: api.OpSub, A: 0, B: 1, C: 2}), 12, 0, c.with(0, 4).at(1), Want{})
	check(t, c, six(api.Ins{Op: api.OpIf, A: 1, Imm: 5}), 12, 0, c.at(5), Want{})
	check(t, c, six(api.Ins{Op: api.OpIf, A: 0, Imm: 5}), 12, 0, c.at(1), Want{})
	check(t, c, six(api.Ins{Op: api.OpSet, A: 0, Imm: -9}), 12, 0, c.with(0, -9).at(1), Want{})
	check(t, c, six(api.Ins{Op: api.OpNow, A: 3}), 12, 0, c.with(3, 12).at(1), Want{})

	send := []api.Ins{{Op: api.OpSend, A: 0, B: 1, C: 2}}
	check(t, c, send, 12, 0, c, Want{Kind: WantSend, To: 7, Value: 3})
	told(t, c, send, 2, c.with(0, 2).at(1))
	recv := []api.Ins{{Op: api.OpRecv, A: 4, B: 5}}
	check(t, c, recv, 12, 0, c, Want{Kind: WantRecv})
	took(t, c, recv, 9, 1, c.with(4, 9).with(5, 1).at(1))
	took(t, c, []api.Ins{{Op: api.OpRecv, A: 4, B: 4}}, 9, 1, c.with(4, 1).at(1))

	exits(t, c.at(1), []api.Ins{{Op: api.OpSet}})
	exits(t, c, []api.Ins{{Op: api.OpSet, A: 8, Imm: 1}})
	exits(t, c, []api.Ins{{Op: api.OpJump, Imm: 7}})
}

// TestReckons has each instruction that reckons by itself; R[2] is b, R[3] is c, R[1] is laid.
func TestReckons(t *testing.T) {
	for _, x := range []struct {
		op      int
		b, c, a int64
	}{
		{api.OpAdd, 7, -3, 4}, {api.OpAdd, most, 1, least}, {api.OpSub, 7, 3, 4}, {api.OpSub, least, 1, most}, {api.OpMul, 7, -3, -21}, {api.OpMul, most, 2, -2},
		{api.OpDiv, 7, -2, -3}, {api.OpDiv, 5, 0, 0}, {api.OpDiv, least, -1, least}, {api.OpRem, -7, 2, -1}, {api.OpRem, 5, 0, 5}, {api.OpRem, least, -1, 0},
		{api.OpAnd, 6, 3, 2}, {api.OpAnd, -1, most, most}, {api.OpOr, 6, 3, 7}, {api.OpOr, least, most, -1}, {api.OpXor, 6, 3, 5}, {api.OpXor, -1, 1, -2},
		{api.OpShl, 3, 2, 12}, {api.OpShl, 1, 63, least}, {api.OpShl, 1, 64, 0}, {api.OpShl, 3, -1, 3}, {api.OpShr, -5, 1, -3}, {api.OpShr, -1, 70, -1}, {api.OpShr, 5, 64, 0}, {api.OpShr, 5, -1, 5},
		{api.OpLess, least, most, 1}, {api.OpLess, 3, 3, 0}, {api.OpLess, 4, 3, 0}, {api.OpEqual, 3, 3, 1}, {api.OpEqual, 3, 4, 0},
		{api.OpFAdd, bits(1.5), bits(0.25), bits(1.75)}, {api.OpFAdd, -1 << 51, bits(1), 0x7ff8000000000000}, {api.OpFSub, bits(1), bits(3), bits(-2)},
		{api.OpFMul, bits(1.5), bits(-2), bits(-3)}, {api.OpFDiv, bits(1), bits(4), bits(0.25)}, {api.OpFDiv, bits(1), 0, bits(math.Inf(1))}, {api.OpFDiv, 0, 0, 0x7ff8000000000000},
		{api.OpFLess, bits(-2), bits(1), 1}, {api.OpFLess, bits(1), bits(1), 0}, {api.OpFLess, least, 0, 0},
	} {
		c := core(3).with(2, x.b).with(3, x.c)
		check(t, c, program(6, 3, api.Ins{Op: x.op, A: 1, B: 2, C: 3}), 12, 4, c.with(1, x.a).at(4), Want{})
	}
	for _, x := range []struct {
		op   int
		b, a int64
	}{
		{api.OpToFloat, 3, bits(3)}, {api.OpToFloat, most, bits(1 << 63)}, {api.OpToFloat, 1<<53 + 1, bits(1 << 53)}, {api.OpToFloat, least, bits(-1 << 63)},
		{api.OpToInt, bits(-2.9), -2}, {api.OpToInt, bits(math.Inf(1)), most}, {api.OpToInt, 0x7ff8000000000000, 0}, {api.OpToInt, bits(-1e300), least},
		{api.OpMove, 77, 77}, {api.OpMove, least, least}, {api.OpMove, 0, 0},
	} {
		c := core(3).with(2, x.b)
		check(t, c, program(6, 3, api.Ins{Op: x.op, A: 1, B: 2}), 12, 4, c.with(1, x.a).at(4), Want{})
	}
}

func TestSet(t *testing.T) {
	for _, v := range numbers {
		for a := range api.MaxRegs {
			check(t, core(0), program(2, 0, api.Ins{Op: api.OpSet, A: a, Imm: v}), 12, 4, core(1).with(a, v), Want{})
		}
	}
}

func TestNowAndSelf(t *testing.T) {
	for a := range api.MaxRegs {
		for _, v := range numbers {
			check(t, core(0), program(1, 0, api.Ins{Op: api.OpNow, A: a}), v, 4, core(1).with(a, v), Want{})
			check(t, core(0), program(1, 0, api.Ins{Op: api.OpSelf, A: a}), 12, int(v), core(1).with(a, v), Want{})
		}
	}
}

// TestWants has each instruction that wants something by itself; R[1] is 7, R[2] is 3.
func TestWants(t *testing.T) {
	for _, x := range []struct {
		ins  api.Ins
		want Want
		on   int
	}{
		{api.Ins{Op: api.OpExit}, Want{WantExit, 0, 0}, 0},
		{api.Ins{Op: api.OpSend, A: 4, B: 1, C: 2}, Want{WantSend, 7, 3}, 0},
		{api.Ins{Op: api.OpSend, A: 1, B: 2, C: 1}, Want{WantSend, 3, 7}, 0},
		{api.Ins{Op: api.OpRecv, A: 1, B: 2}, Want{WantRecv, 0, 0}, 0},
		{api.Ins{Op: api.OpTry, A: 1, B: 2}, Want{WantTry, 0, 0}, 0},
		{api.Ins{Op: api.OpTimer, A: 1}, Want{WantTimer, 0, 7}, 1},
		{api.Ins{Op: api.OpTimer, A: 3}, Want{WantTimer, 0, -5}, 1},
		{api.Ins{Op: api.OpSleep, A: 1}, Want{WantSleep, 0, 7}, 0},
		{api.Ins{Op: api.OpSleep, A: 6}, Want{WantSleep, 0, least}, 0},
		{api.Ins{Op: api.OpLock}, Want{WantLock, 0, 0}, 0},
		{api.Ins{Op: api.OpLock, Imm: 2}, Want{WantLock, 2, 0}, 0},
		{api.Ins{Op: api.OpLock, Imm: 7}, Want{WantLock, 7, 0}, 0},
		{api.Ins{Op: api.OpUnlock}, Want{WantUnlock, 0, 0}, 1},
		{api.Ins{Op: api.OpUnlock, Imm: 2}, Want{WantUnlock, 2, 0}, 1},
		{api.Ins{Op: api.OpUnlock, Imm: 7}, Want{WantUnlock, 7, 0}, 1},
		{api.Ins{Op: api.OpOut, A: 1}, Want{WantOut, 0, 7}, 1},
		{api.Ins{Op: api.OpOut, A: 7}, Want{WantOut, 0, most}, 1},
	} {
		for _, place := range []int{0, 1, 4} {
			check(t, core(place), program(5, place, x.ins), 12, 4, core(place+x.on), x.want)
		}
	}
}

// TestWantsTellAnyNumber: what is wanted is told as it stands there; what may be made of it, others say.
func TestWantsTellAnyNumber(t *testing.T) {
	for _, v := range numbers {
		c := core(0).with(4, v)
		check(t, c, []api.Ins{{Op: api.OpTimer, A: 4}}, 12, 4, c.at(1), Want{Kind: WantTimer, Value: v})
		check(t, c, []api.Ins{{Op: api.OpSleep, A: 4}}, 12, 4, c, Want{Kind: WantSleep, Value: v})
		check(t, c, []api.Ins{{Op: api.OpOut, A: 4}}, 12, 4, c.at(1), Want{Kind: WantOut, Value: v})
		check(t, c, []api.Ins{{Op: api.OpSend, A: 0, B: 4, C: 1}}, 12, 4, c, Want{Kind: WantSend, To: v, Value: 7})
		check(t, c, []api.Ins{{Op: api.OpSend, A: 0, B: 1, C: 4}}, 12, 4, c, Want{Kind: WantSend, To: 7, Value: v})
	}
}

// said is what the chapter says of an instruction that may stand there.
func said(c Core, x api.Ins, tick int64, self int) (Core, Want) {
	r, on := c.Regs, c.at(c.PC+1)
	switch op := x.Op; {
	case op == api.OpExit:
		return c, Want{WantExit, 0, 0}
	case op == api.OpSet:
		return on.with(x.A, x.Imm), Want{}
	case op == api.OpMove:
		return on.with(x.A, r[x.B]), Want{}
	case op >= api.OpAdd && op <= api.OpEqual:
		v, _ := alu.Do(op, r[x.B], r[x.C])
		return on.with(x.A, v), Want{}
	case op >= api.OpFAdd && op <= api.OpFLess:
		v, _ := flt.Do(op, r[x.B], r[x.C])
		return on.with(x.A, v), Want{}
	case op == api.OpToFloat, op == api.OpToInt:
		v, _ := flt.Do(op, r[x.B], 0)
		return on.with(x.A, v), Want{}
	case op == api.OpJump, op == api.OpIf && r[x.A] != 0:
		return c.at(int(x.Imm)), Want{}
	case op == api.OpIf:
		return on, Want{}
	case op == api.OpSend:
		return c, Want{WantSend, r[x.B], r[x.C]}
	case op == api.OpRecv, op == api.OpTry:
		return c, Want{WantRecv + op - api.OpRecv, 0, 0}
	case op == api.OpTimer:
		return on, Want{WantTimer, 0, r[x.A]}
	case op == api.OpSleep:
		return c, Want{WantSleep, 0, r[x.A]}
	case op == api.OpLock:
		return c, Want{WantLock, x.Imm, 0}
	case op == api.OpUnlock:
		return on, Want{WantUnlock, x.Imm, 0}
	case op == api.OpOut:
		return on, Want{WantOut, 0, r[x.A]}
	case op == api.OpNow:
		return on.with(x.A, tick), Want{}
	}
	return on.with(x.A, int64(self)), Want{}
}

// each calls f for every instruction with all its registers, and with numbers that may be in a program of n.
func each(n int, f func(x api.Ins)) {
	span := func(op int, field string, n int) []int {
		if !strings.Contains(has[op], field) {
			n = 1
		}
		list := make([]int, n)
		for i := range list {
			list[i] = i
		}
		return list
	}
	for op := range api.Ops {
		top := n + 1
		if op == api.OpLock || op == api.OpUnlock {
			top = api.MaxLocks
		}
		for _, a := range span(op, "A", api.MaxRegs) {
			for _, b := range span(op, "B", api.MaxRegs) {
				for _, c := range span(op, "C", api.MaxRegs) {
					for _, imm := range span(op, "I", top) {
						f(api.Ins{Op: op, A: a, B: b, C: c, Imm: int64(imm)})
					}
				}
			}
		}
	}
}

func TestEveryInstructionWithEveryRegister(t *testing.T) {
	count := 0
	for _, n := range []int{1, 2, 5} {
		for place := range n {
			l := program(n, place, api.Ins{})
			each(n, func(x api.Ins) {
				l[place] = x
				count++
				for _, c := range []Core{core(place), {PC: place}, core(place).with(x.A, 0).with(x.C, -1)} {
					to, want := said(c, x, 99, 31)
					check(t, c, l, 99, 31, to, want)
				}
			})
		}
	}
	if count < 8*18*512 {
		t.Errorf("%d instructions were looked at", count)
	}
}

func TestEveryInstructionOfManyNumbers(t *testing.T) {
	source := rand.New(rand.NewSource(1))
	number := func() int64 {
		if source.Intn(2) == 0 {
			return numbers[source.Intn(len(numbers))]
		}
		return int64(source.Uint64()) >> source.Intn(64)
	}
	for range 100 {
		n := 1 + source.Intn(9)
		place := source.Intn(n)
		c := Core{PC: place}
		for r := range c.Regs {
			c.Regs[r] = number()
		}
		l, tick, self := program(n, place, api.Ins{}), number(), int(number())
		each(1, func(x api.Ins) {
			l[place] = x
			to, want := said(c, x, tick, self)
			if got, w := Step(c, l, tick, self); got != to || w != want {
				t.Errorf("Step(%v, %v): %v, %v, not %v, %v", c, x, got, w, to, want)
			}
		})
	}
}

// P13.1: the edges

func TestOneRegisterTwice(t *testing.T) {
	c := core(0)
	for _, x := range []struct {
		ins api.Ins
		a   int64
	}{
		{api.Ins{Op: api.OpAdd, A: 1, B: 1, C: 1}, 14}, {api.Ins{Op: api.OpSub, A: 1, B: 1, C: 1}, 0},
		{api.Ins{Op: api.OpSub, A: 1, B: 1, C: 2}, 4}, {api.Ins{Op: api.OpSub, A: 1, B: 2, C: 1}, -4}, {api.Ins{Op: api.OpMul, A: 1, B: 3, C: 3}, 25},
		{api.Ins{Op: api.OpEqual, A: 1, B: 1, C: 1}, 1}, {api.Ins{Op: api.OpLess, A: 1, B: 1, C: 1}, 0}, {api.Ins{Op: api.OpMove, A: 1, B: 1}, 7},
		{api.Ins{Op: api.OpToFloat, A: 1, B: 1}, bits(7)}, {api.Ins{Op: api.OpFAdd, A: 1, B: 4, C: 4}, bits(3)},
	} {
		check(t, c, []api.Ins{x.ins}, 12, 4, c.with(1, x.a).at(1), Want{})
	}
	check(t, c, []api.Ins{{Op: api.OpFMul, A: 4, B: 4, C: 4}}, 12, 4, c.with(4, bits(2.25)).at(1), Want{})
	check(t, c, []api.Ins{{Op: api.OpToInt, A: 4, B: 4}}, 12, 4, c.with(4, 1).at(1), Want{})
	check(t, c, []api.Ins{{Op: api.OpSend, A: 1, B: 1, C: 1}}, 12, 4, c, Want{Kind: WantSend, To: 7, Value: 7})
	check(t, c, []api.Ins{{Op: api.OpRecv, A: 1, B: 1}}, 12, 4, c, Want{Kind: WantRecv})
	check(t, c, []api.Ins{{Op: api.OpTry, A: 1, B: 1}}, 12, 4, c, Want{Kind: WantTry})
}

func TestPlaces(t *testing.T) {
	set := api.Ins{Op: api.OpSet, A: 1, Imm: 8}
	for _, n := range []int{1, 2, 3, 255, 256, 257, 1000} {
		for _, place := range []int{0, n / 2, n - 1} {
			check(t, core(place), program(n, place, set), 12, 4, core(place+1).with(1, 8), Want{})
			exits(t, core(place), program(n, place, api.Ins{}))
		}
		for _, pc := range nowhere(n) {
			exits(t, core(pc), slices.Repeat([]api.Ins{set}, n))
		}
	}
}

func TestEveryInstructionHasAnEndBehindIt(t *testing.T) {
	each(1, func(x api.Ins) {
		for _, pc := range []int{1, -1, math.MinInt, math.MaxInt} {
			exits(t, core(pc), []api.Ins{x})
		}
	})
}

func TestNoCode(t *testing.T) {
	for _, l := range [][]api.Ins{nil, {}, make([]api.Ins, 0, 4)} {
		for _, pc := range append(nowhere(0), nowhere(1)...) {
			exits(t, core(pc), l)
			exits(t, Core{PC: pc}, l)
		}
	}
}

// TestSpareRoomIsNoCode: what stands behind a list, in its spare room, is none of its instructions.
func TestSpareRoomIsNoCode(t *testing.T) {
	l := slices.Repeat([]api.Ins{{Op: api.OpSet, A: 1, Imm: 8}}, 6)
	for pc := 3; pc < 8; pc++ {
		exits(t, core(pc), l[:3])
		told(t, core(pc), l[:3], 5, core(pc+1))
		took(t, core(pc), l[:3], 5, 6, core(pc+1))
	}
	l[0] = api.Ins{Op: api.OpJump, Imm: 4}
	exits(t, core(0), l[:3])
}

func TestJumps(t *testing.T) {
	for _, n := range []int{1, 2, 3, 255, 256, 257, 1000} {
		for _, place := range []int{0, n / 2, n - 1} {
			for to := range n + 1 {
				check(t, core(place), program(n, place, api.Ins{Op: api.OpJump, Imm: int64(to)}), 12, 4, core(to), Want{})
				check(t, core(place), program(n, place, api.Ins{Op: api.OpIf, A: 1, Imm: int64(to)}), 12, 4, core(to), Want{})
				check(t, core(place).with(1, 0), program(n, place, api.Ins{Op: api.OpIf, A: 1, Imm: int64(to)}), 12, 4, core(place+1).with(1, 0), Want{})
			}
			for _, to := range nowhere(n)[1:] {
				exits(t, core(place), program(n, place, api.Ins{Op: api.OpJump, Imm: int64(to)}))
				exits(t, core(place), program(n, place, api.Ins{Op: api.OpIf, A: 1, Imm: int64(to)}))
				exits(t, core(place).with(1, 0), program(n, place, api.Ins{Op: api.OpIf, A: 1, Imm: int64(to)}))
			}
		}
	}
}

// TestIf: all numbers but 0 go on to Imm, those too whose float is 0, and whose lowest bits are.
func TestIf(t *testing.T) {
	for a := range api.MaxRegs {
		for _, v := range append([]int64{1 << 8, 1 << 16, 1 << 62}, numbers...) {
			c, to := core(2).with(a, v), 5
			if v == 0 {
				to = 3
			}
			check(t, c, program(6, 2, api.Ins{Op: api.OpIf, A: a, Imm: 5}), 12, 4, c.at(to), Want{})
		}
	}
}

// P13.1: instructions that may not stand there

func TestWrongInstructions(t *testing.T) {
	for name, x := range map[string]api.Ins{
		"no such instruction":       {Op: api.Ops},
		"no such instruction, -1":   {Op: -1},
		"no such register A":        {Op: api.OpSet, A: 8},
		"no such register B":        {Op: api.OpMove, A: 1, B: 8},
		"no such register C":        {Op: api.OpAdd, A: 1, B: 1, C: 8},
		"a register below 0":        {Op: api.OpSend, A: 1, B: -1, C: 1},
		"A that should be 0":        {Op: api.OpJump, A: 1},
		"B that should be 0":        {Op: api.OpSet, A: 1, B: 1},
		"C that should be 0":        {Op: api.OpMove, A: 1, B: 1, C: 1},
		"Imm that should be 0":      {Op: api.OpAdd, A: 1, B: 1, C: 1, Imm: 1},
		"Imm below 0 of an Exit":    {Op: api.OpExit, Imm: -1},
		"a jump to nowhere":         {Op: api.OpJump, Imm: 4},
		"a jump below 0":            {Op: api.OpJump, Imm: -1},
		"an If to nowhere":          {Op: api.OpIf, A: 1, Imm: 4},
		"no such lock":              {Op: api.OpLock, Imm: 8},
		"no such lock, below 0":     {Op: api.OpLock, Imm: -1},
		"no such lock to be given":  {Op: api.OpUnlock, Imm: 8},
		"none to be given, below 0": {Op: api.OpUnlock, Imm: -1},
	} {
		c := core(1)
		if got, w := Step(c, program(3, 1, x), 12, 4); got != c || w != (Want{Kind: WantExit}) {
			t.Errorf("%s: %v, %v", name, got, w)
		}
	}
}

func TestNoSuchInstruction(t *testing.T) {
	list := []int{-1, -2, -api.Ops, api.Ops, api.Ops + 1, 127, 255, math.MinInt, math.MinInt + 1, math.MaxInt - 1, math.MaxInt}
	// Numbers whose lowest bits are an instruction's.
	for op := range api.Ops {
		list = append(list, op+1<<8, op+1<<16, op+1<<32, op+math.MinInt)
	}
	for _, op := range list {
		for _, x := range []api.Ins{{Op: op}, {Op: op, A: 1, B: 2, C: 3}, {Op: op, Imm: 1}} {
			exits(t, core(0), program(2, 0, x))
		}
	}
}

// may tells by the document's words whether an instruction may stand in a program of n.
func may(x api.Ins, n int) bool {
	if x.Op < 0 || x.Op >= api.Ops {
		return false
	}
	for i, r := range []int{x.A, x.B, x.C} {
		if strings.Contains(has[x.Op], "ABC"[i:i+1]) {
			if r < 0 || r > 7 {
				return false
			}
		} else if r != 0 {
			return false
		}
	}
	switch x.Op {
	case api.OpSet:
		return true
	case api.OpJump, api.OpIf:
		return x.Imm >= 0 && x.Imm <= int64(n)
	case api.OpLock, api.OpUnlock:
		return x.Imm >= 0 && x.Imm <= 7
	}
	return x.Imm == 0
}

// TestAllFields has all fields beside one another, right ones and wrong ones.
func TestAllFields(t *testing.T) {
	right, wrong := 0, 0
	registers := []int{0, 1, 7, 8, -1, 1 << 32}
	for op := -1; op <= api.Ops; op++ {
		for _, a := range registers {
			for _, b := range registers {
				for _, c := range registers {
					for _, imm := range []int64{0, 1, 3, 4, 7, 8, -1, 1 << 32, least, most} {
						x := api.Ins{Op: op, A: a, B: b, C: c, Imm: imm}
						l := program(3, 1, x)
						if may(x, 3) {
							right++
							to, want := said(core(1), x, 12, 4)
							check(t, core(1), l, 12, 4, to, want)
						} else {
							wrong++
							exits(t, core(1), l)
						}
					}
				}
			}
		}
	}
	if right < 18*27+5*9+10*3 || wrong < 50000 {
		t.Errorf("%d right ones, %d wrong ones", right, wrong)
	}
}

func TestWrongRegisters(t *testing.T) {
	each(1, func(x api.Ins) {
		for _, r := range notRegisters {
			for i := range 3 {
				y := x
				*[]*int{&y.A, &y.B, &y.C}[i] = r
				exits(t, core(0), []api.Ins{y})
			}
		}
	})
}

// TestWrongOnesElsewhere: only the instruction at the program counter is looked at, and the rest for how long it is.
func TestWrongOnesElsewhere(t *testing.T) {
	wrong := api.Ins{Op: -1, A: 99, B: -99, C: 99, Imm: -1}
	for _, n := range []int{3, 256, 257, 5000} {
		l := slices.Repeat([]api.Ins{wrong}, n)
		l[1] = api.Ins{Op: api.OpAdd, A: 0, B: 1, C: 2}
		check(t, core(1), l, 12, 4, core(2).with(0, 10), Want{})
		l[1] = api.Ins{Op: api.OpJump, Imm: int64(n)}
		check(t, core(1), l, 12, 4, core(n), Want{})
		l[1] = api.Ins{Op: api.OpJump, Imm: int64(n + 1)}
		exits(t, core(1), l)
	}
}

// P13.1: Told, Took, Next

// told asks what Told answers, twice, and that it leaves the code as it was.
func told(t *testing.T, c Core, l []api.Ins, reply int64, to Core) {
	t.Helper()
	ahead := slices.Clone(l[:cap(l)])
	for range 2 {
		if got := Told(c, l, reply); got != to {
			t.Errorf("Told(%v, %v, %d): %v, not %v", c, shown(c, l), reply, got, to)
		}
	}
	if !slices.Equal(l[:cap(l)], ahead) {
		t.Errorf("Told(%v, %v, %d): changed the code", c, shown(c, l), reply)
	}
}

// took asks the same of Took.
func took(t *testing.T, c Core, l []api.Ins, v, from int64, to Core) {
	t.Helper()
	ahead := slices.Clone(l[:cap(l)])
	for range 2 {
		if got := Took(c, l, v, from); got != to {
			t.Errorf("Took(%v, %v, %d, %d): %v, not %v", c, shown(c, l), v, from, got, to)
		}
	}
	if !slices.Equal(l[:cap(l)], ahead) {
		t.Errorf("Took(%v, %v, %d, %d): changed the code", c, shown(c, l), v, from)
	}
}

func TestTold(t *testing.T) {
	for a := range api.MaxRegs {
		for _, v := range numbers {
			for _, place := range []int{0, 2, 4} {
				told(t, core(place), program(5, place, api.Ins{Op: api.OpSend, A: a, B: 1, C: 2}), v, core(place+1).with(a, v))
			}
		}
	}
}

func TestTook(t *testing.T) {
	for a := range api.MaxRegs {
		for b := range api.MaxRegs {
			for _, v := range numbers {
				for _, op := range []int{api.OpRecv, api.OpTry} {
					for _, place := range []int{0, 2, 4} {
						l := program(5, place, api.Ins{Op: op, A: a, B: b})
						// B is written behind A, so that it stays where both are one.
						took(t, core(place), l, v, -2, core(place+1).with(a, v).with(b, -2))
						took(t, core(place), l, 5, v, core(place+1).with(a, 5).with(b, v))
					}
				}
			}
		}
	}
}

// TestToldAndTookOfAnyInstruction: A and B are taken as they stand there, whatever the Op is, and whether it may be.
func TestToldAndTookOfAnyInstruction(t *testing.T) {
	for _, op := range []int{-1, api.Ops, 1 << 32, math.MinInt, math.MaxInt} {
		told(t, core(0), []api.Ins{{Op: op, A: 3, B: 4}}, 9, core(1).with(3, 9))
		took(t, core(0), []api.Ins{{Op: op, A: 3, B: 4}}, 9, 1, core(1).with(3, 9).with(4, 1))
	}
	for op := range api.Ops {
		for _, rest := range []api.Ins{{}, {C: 8, Imm: -1}, {C: -1, Imm: most}, {C: 5, Imm: least}} {
			x := api.Ins{Op: op, A: 3, B: 4, C: rest.C, Imm: rest.Imm}
			told(t, core(1), program(2, 1, x), 9, core(2).with(3, 9))
			took(t, core(1), program(2, 1, x), 9, 1, core(2).with(3, 9).with(4, 1))
			x.A, x.B = 0, 0
			told(t, core(1), program(2, 1, x), 9, core(2).with(0, 9))
			took(t, core(1), program(2, 1, x), 9, 1, core(2).with(0, 1))
		}
	}
}

func TestToldAndTookOfNoRegister(t *testing.T) {
	for _, r := range notRegisters {
		for _, op := range []int{api.OpSend, api.OpRecv, api.OpTry, api.OpExit, -1} {
			a := []api.Ins{{Op: op, A: r, B: 2}}
			told(t, core(0), a, 9, core(1))
			took(t, core(0), a, 9, 1, core(1).with(2, 1))
			b := []api.Ins{{Op: op, A: 2, B: r}}
			told(t, core(0), b, 9, core(1).with(2, 9))
			took(t, core(0), b, 9, 1, core(1).with(2, 9))
			for _, other := range notRegisters {
				both := []api.Ins{{Op: op, A: r, B: other}}
				told(t, core(0), both, 9, core(1))
				took(t, core(0), both, 9, 1, core(1))
			}
		}
	}
}

// behind is the program counter one on, the greatest being followed by the least.
func behind(pc int) int {
	if pc == math.MaxInt {
		return math.MinInt
	}
	return pc + 1
}

func TestToldAndTookOfNoPlace(t *testing.T) {
	for _, n := range []int{0, 1, 2, 256, 257} {
		l := slices.Repeat([]api.Ins{{Op: api.OpRecv, A: 3, B: 4}}, n)
		for _, pc := range nowhere(n) {
			told(t, core(pc), l, 9, core(behind(pc)))
			took(t, core(pc), l, 9, 1, core(behind(pc)))
		}
	}
	for _, pc := range nowhere(0) {
		told(t, core(pc), nil, 9, core(behind(pc)))
		took(t, core(pc), nil, 9, 1, core(behind(pc)))
	}
}

func TestToldAndTookAtThePlaces(t *testing.T) {
	for _, n := range []int{1, 2, 256, 257, 1000} {
		for _, place := range []int{0, n / 2, n - 1} {
			l := program(n, place, api.Ins{Op: api.OpTry, A: 3, B: 4})
			told(t, core(place), l, 9, core(place+1).with(3, 9))
			took(t, core(place), l, 9, 1, core(place+1).with(3, 9).with(4, 1))
		}
	}
}

func TestNext(t *testing.T) {
	for _, pc := range append([]int{0, 1, 255, 256, 257, 1<<31 - 1, 1<<32 - 1}, nowhere(256)...) {
		for _, c := range []Core{core(pc), {PC: pc}} {
			ahead := c
			if got := Next(c); got != c.at(behind(pc)) || c != ahead {
				t.Errorf("Next(%v): %v", ahead, got)
			}
		}
	}
	if got := Next(core(math.MaxInt)).PC; got != math.MinInt {
		t.Errorf("behind the greatest int: %d", got)
	}
}

// P13.2

// some is an instruction, right or wrong, in a program of n.
func some(source *rand.Rand, n int) api.Ins {
	op := source.Intn(api.Ops)
	x := api.Ins{Op: op}
	for i, field := range []*int{&x.A, &x.B, &x.C} {
		if strings.Contains(has[op], "ABC"[i:i+1]) {
			*field = source.Intn(api.MaxRegs)
		}
	}
	if strings.Contains(has[op], "I") {
		x.Imm = int64(source.Intn(n + 1))
	}
	if source.Intn(10) == 0 {
		*[]*int{&x.Op, &x.A, &x.B, &x.C}[source.Intn(4)] = source.Intn(12) - 2
	}
	return x
}

func TestWhatAStepChanges(t *testing.T) {
	source := rand.New(rand.NewSource(2))
	nothing, something := 0, 0
	for range 20000 {
		n := 1 + source.Intn(12)
		l := make([]api.Ins, n)
		for i := range l {
			l[i] = some(source, n)
		}
		c := Core{PC: source.Intn(n)}
		for r := range c.Regs {
			c.Regs[r] = numbers[source.Intn(len(numbers))]
		}
		x := l[c.PC]
		got, w := Step(c, l, 12, 4)
		if w.Kind == WantNone {
			nothing++
			changesOne(t, c, x, got)
			continue
		}
		something++
		if got.Regs != c.Regs || got.PC != c.PC && got.PC != c.PC+1 {
			t.Errorf("%v at %v, which wants %v: %v", x, c, w, got)
		}
	}
	if nothing < 5000 || something < 5000 {
		t.Errorf("%d Steps want nothing, %d something", nothing, something)
	}
}

// changesOne asks that a Step that wants nothing changed one register at most, and the program counter by one, but for jumps.
func changesOne(t *testing.T, c Core, x api.Ins, got Core) {
	t.Helper()
	jumps := x.Op == api.OpJump || x.Op == api.OpIf
	for r := range c.Regs {
		if got.Regs[r] != c.Regs[r] && (jumps || r != x.A) {
			t.Errorf("%v at %v: the register %d: %v", x, c, r, got)
		}
	}
	if got.PC != c.PC+1 && !(jumps && got.PC == int(x.Imm)) {
		t.Errorf("%v at %v: the program counter %d", x, c, got.PC)
	}
}

// The calls beside one another

// run does a program till it ends: each send is told 2, and what is received comes of the inbox, as long as there is something; what it says and sends.
func run(t *testing.T, l []api.Ins, inbox []int64) (out []int64, c Core) {
	t.Helper()
	for tick := range int64(10000) {
		var w Want
		switch c, w = Step(c, l, tick, 4); w.Kind {
		case WantExit:
			return out, c
		case WantOut:
			out = append(out, w.Value)
		case WantSend:
			out = append(out, w.To, w.Value)
			c = Told(c, l, 2)
		case WantRecv, WantTry:
			if len(inbox) == 0 {
				c = Took(c, l, 0, -1)
				continue
			}
			c, inbox = Took(c, l, inbox[0], 1), inbox[1:]
		case WantSleep, WantLock:
			c = Next(c)
		}
	}
	t.Fatal("it does not end")
	return nil, c
}

func TestPrograms(t *testing.T) {
	// 10! by a loop.
	factorial := []api.Ins{
		{Op: api.OpSet, A: 0, Imm: 1}, {Op: api.OpSet, A: 1, Imm: 10}, {Op: api.OpSet, A: 2, Imm: 1},
		{Op: api.OpMul, A: 0, B: 0, C: 1}, {Op: api.OpSub, A: 1, B: 1, C: 2}, {Op: api.OpIf, A: 1, Imm: 3},
		{Op: api.OpOut, A: 0}, {Op: api.OpJump, Imm: 8},
	}
	if out, c := run(t, factorial, nil); !slices.Equal(out, []int64{3628800}) || c.PC != 8 || c.Regs != [8]int64{3628800, 0, 1} {
		t.Errorf("10!: %v, %v", out, c)
	}
	// The sum of what comes, sent on to whoever it is; each Lock and Sleep is gone on from.
	sum := []api.Ins{
		{Op: api.OpLock, Imm: 7}, {Op: api.OpSleep}, {Op: api.OpTimer}, {Op: api.OpUnlock, Imm: 7},
		{Op: api.OpTry, A: 1, B: 2}, {Op: api.OpAdd, A: 0, B: 0, C: 1}, {Op: api.OpAdd, A: 3, B: 2, C: 2}, {Op: api.OpLess, A: 4, B: 5, C: 3}, {Op: api.OpIf, A: 4, Imm: 4},
		{Op: api.OpSelf, A: 6}, {Op: api.OpSend, A: 7, B: 6, C: 0}, {Op: api.OpExit}, {Op: api.OpOut},
	}
	if out, c := run(t, sum, []int64{5, -7, 40}); !slices.Equal(out, []int64{4, 38}) || c.PC != 11 || c.Regs != [8]int64{38, 0, -1, -2, 0, 0, 4, 2} {
		t.Errorf("the sum: %v, %v", out, c)
	}
}

// TestNothingIsKept: what one call is told is gone in the next one.
func TestNothingIsKept(t *testing.T) {
	l := []api.Ins{{Op: api.OpSend, A: 0, B: 1, C: 2}, {Op: api.OpTry, A: 3, B: 4}, {Op: api.OpNow, A: 5}}
	for range 3 {
		check(t, core(0), l, 12, 4, core(0), Want{Kind: WantSend, To: 7, Value: 3})
		told(t, core(0), l, 9, core(1).with(0, 9))
		check(t, core(1), l, 13, 5, core(1), Want{Kind: WantTry})
		took(t, core(1), l, 9, 8, core(2).with(3, 9).with(4, 8))
		check(t, core(2), l, 14, 6, core(3).with(5, 14), Want{})
	}
}
