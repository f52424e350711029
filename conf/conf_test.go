package conf

import (
	"bytes"
	"encoding/binary"
	"math"
	"slices"
	"testing"

	"firebreak/api"
	"firebreak/code"
	"firebreak/table"
)

// wild are numbers that are those of nothing.
var wild = []int{-1, -2, -256, math.MinInt, math.MinInt + 1, math.MaxInt, math.MaxInt - 1, 1 << 32, 1 << 40}

// small is the chapter's example.
func small() api.Config {
	return api.Config{
		Labels: []uint64{0, 1}, Table: []int{0, 1}, Fuel: 2, Lane: 1, Locks: 1, Log: 4,
		Procs: []api.Proc{{Part: 1, Code: []api.Ins{{Op: api.OpRecv, A: 3, B: 4}}}},
	}
}

// least has of everything as little as there may be.
func least() api.Config {
	return api.Config{Labels: []uint64{0}, Table: []int{0}, Fuel: 1, Lane: 1, Procs: []api.Proc{{}}}
}

// lawful is an instruction of each kind, with fields as great as they may be, in a program of n on a machine with so many locks.
func lawful(op, n, locks int) api.Ins {
	a, b, c, imm := code.Fields(op)
	x := api.Ins{Op: op, A: 7, B: 7, C: 7}
	if !a {
		x.A = 0
	}
	if !b {
		x.B = 0
	}
	if !c {
		x.C = 0
	}
	switch {
	case !imm:
	case op == api.OpSet:
		x.Imm = math.MinInt64 + 258
	case op == api.OpLock || op == api.OpUnlock:
		x.Imm = int64(locks) - 1
	default:
		x.Imm = int64(n)
	}
	return x
}

// lawfuls is a program of n instructions, of all kinds in turn; without locks if there are none.
func lawfuls(n, locks int) []api.Ins {
	l := make([]api.Ins, n)
	for i := range l {
		l[i] = lawful(i%api.Ops, n, locks)
		if l[i].Imm < 0 && l[i].Op != api.OpSet {
			l[i] = api.Ins{}
		}
	}
	return l
}

// wide has several partitions and processes, and all instructions.
func wide() api.Config {
	return api.Config{
		Labels: []uint64{1, 2, 0x0102030405060708}, Table: []int{2, 0, 1, 0, 2}, Fuel: 256, Lane: 9, Locks: 3, Log: 258,
		Procs: []api.Proc{{Part: 2, Code: lawfuls(api.Ops, 3)}, {Part: 0}, {Part: 1, Code: []api.Ins{{Op: api.OpJump, Imm: 1}}}, {Part: 1}},
	}
}

// greatest has of everything as much as there may be.
func greatest() api.Config {
	c := api.Config{Fuel: 256, Lane: 64, Locks: 8, Log: 4096}
	for i := range 8 {
		c.Labels = append(c.Labels, math.MaxUint64-7+uint64(i))
	}
	for i := range 64 {
		c.Table = append(c.Table, 7-i%8)
	}
	for i := range 32 {
		c.Procs = append(c.Procs, api.Proc{Part: i % 8, Code: lawfuls(256, 8)})
	}
	return c
}

// copied is a config that shares no memory with the first.
func copied(c api.Config) api.Config {
	c.Labels, c.Table, c.Procs = slices.Clone(c.Labels), slices.Clone(c.Table), slices.Clone(c.Procs)
	for i := range c.Procs {
		c.Procs[i].Code = slices.Clone(c.Procs[i].Code)
	}
	return c
}

// turned is the example with something changed.
func turned(change ...func(c *api.Config)) api.Config {
	c := small()
	for _, f := range change {
		f(&c)
	}
	return c
}

// same tells whether two configs are; lists without elements are all the same.
func same(a, b api.Config) bool {
	return slices.Equal(a.Labels, b.Labels) && slices.Equal(a.Table, b.Table) &&
		a.Fuel == b.Fuel && a.Lane == b.Lane && a.Locks == b.Locks && a.Log == b.Log &&
		slices.EqualFunc(a.Procs, b.Procs, func(p, q api.Proc) bool { return p.Part == q.Part && slices.Equal(p.Code, q.Code) })
}

// chance makes numbers that look like chance, the same ones each time.
type chance uint64

func (c *chance) next(n int) int {
	*c = *c*6364136223846793005 + 1442695040888963407
	return int(uint64(*c>>33) % uint64(n))
}

// config is one that may be.
func (c *chance) config() api.Config {
	x := api.Config{Fuel: 1 + c.next(256), Lane: 1 + c.next(64), Locks: c.next(9), Log: c.next(4097)}
	label := uint64(c.next(3))
	for range 1 + c.next(8) {
		x.Labels = append(x.Labels, label)
		label += 1 + uint64(c.next(1<<30))<<c.next(28)
	}
	for range 1 + c.next(1<<c.next(7)) {
		x.Table = append(x.Table, c.next(len(x.Labels)))
	}
	for range 1 + c.next(1<<c.next(6)) {
		p := api.Proc{Part: c.next(len(x.Labels)), Code: lawfuls(c.next(1<<c.next(6)), x.Locks)}
		for i := range p.Code {
			k := c.next(len(p.Code))
			p.Code[i], p.Code[k] = p.Code[k], p.Code[i]
		}
		x.Procs = append(x.Procs, p)
	}
	return x
}

// spoil changes something of a config, most often so that it may not be.
func (c *chance) spoil(x *api.Config) {
	number := []int{-1, 0, 1, 2, 8, 9, 64, 65, 256, 257, 4096, 4097, math.MaxInt, math.MinInt}[c.next(14)]
	switch c.next(13) {
	case 0:
		x.Labels = x.Labels[:c.next(len(x.Labels)+1)]
	case 1:
		x.Labels = append(x.Labels, make([]uint64, 10)...)[:c.next(11)]
	case 2:
		if len(x.Labels) > 0 {
			x.Labels[c.next(len(x.Labels))] = uint64(number)
		}
	case 3:
		x.Table = make([]int, c.next(70))
	case 4:
		if len(x.Table) > 0 {
			x.Table[c.next(len(x.Table))] = number
		}
	case 5:
		x.Fuel = number
	case 6:
		x.Lane = number
	case 7:
		x.Locks = number
	case 8:
		x.Log = number
	case 9:
		x.Procs = append(x.Procs, make([]api.Proc, 33)...)[:c.next(34)]
	default:
		if len(x.Procs) > 0 {
			c.spoilProc(&x.Procs[c.next(len(x.Procs))], number)
		}
	}
}

func (c *chance) spoilProc(p *api.Proc, number int) {
	if c.next(3) == 0 || len(p.Code) == 0 {
		p.Part = number
		return
	}
	x := &p.Code[c.next(len(p.Code))]
	switch c.next(6) {
	case 0:
		x.Op = number
	case 1:
		x.A = number
	case 2:
		x.B = number
	case 3:
		x.C = number
	case 4:
		x.Imm = int64(number)
	case 5:
		p.Code = make([]api.Ins, 250+c.next(10))
	}
}

// wanted is P14.1 said plainly.
func wanted(c api.Config) (api.Errno, int) {
	none := func(part int) bool { return part < 0 || part >= len(c.Labels) }
	e, _ := table.May(c.Labels)
	switch {
	case e != api.OK:
		return e, 0
	case len(c.Table) == 0:
		return api.ErrArg, 1
	case len(c.Table) > 64:
		return api.ErrMany, 1
	case slices.ContainsFunc(c.Table, none):
		return api.ErrRange, 1
	case c.Fuel < 1 || c.Fuel > 256:
		return api.ErrRange, 2
	case c.Lane < 1 || c.Lane > 64:
		return api.ErrRange, 3
	case c.Locks < 0 || c.Locks > 8:
		return api.ErrRange, 4
	case c.Log < 0 || c.Log > 4096:
		return api.ErrRange, 5
	case len(c.Procs) == 0:
		return api.ErrArg, 6
	case len(c.Procs) > 32:
		return api.ErrMany, 6
	}
	for i, p := range c.Procs {
		if none(p.Part) {
			return api.ErrRange, 7 + i
		}
		if e, _ := code.May(p.Code, c.Locks); e != api.OK {
			return e, 7 + i
		}
	}
	return api.OK, 0
}

// plain is P14.3's table said plainly, of any config: of what doesn't fit the low bytes.
func plain(c api.Config) []byte {
	b := append([]byte{0x46, 0x42, 0x43, 0x46, 1}, byte(len(c.Labels)))
	for _, l := range c.Labels {
		b = binary.LittleEndian.AppendUint64(b, l)
	}
	b = append(b, byte(len(c.Table)))
	for _, part := range c.Table {
		b = append(b, byte(part))
	}
	b = binary.LittleEndian.AppendUint16(b, uint16(c.Fuel))
	b = append(b, byte(c.Lane), byte(c.Locks))
	b = binary.LittleEndian.AppendUint16(b, uint16(c.Log))
	b = append(b, byte(len(c.Procs)))
	for _, p := range c.Procs {
		b = append(b, byte(p.Part))
		b = binary.LittleEndian.AppendUint16(b, uint16(len(p.Code)))
		for _, x := range p.Code {
			b = append(b, byte(x.Op), byte(x.A), byte(x.B), byte(x.C))
			b = binary.LittleEndian.AppendUint64(b, uint64(x.Imm))
		}
	}
	return b
}

// may asks May, and Encode, which tells the same error.
func may(t *testing.T, c api.Config, want api.Errno, part int) {
	t.Helper()
	if e, at := May(c); e != want || at != part {
		t.Errorf("May(%v): %d, %d, not %d, %d", shown(c), e, at, want, part)
	}
	b, e := Encode(c)
	if e != want || want != api.OK && len(b) != 0 || want == api.OK && !bytes.Equal(b, plain(c)) {
		t.Errorf("Encode(%v): %x, %d, not %d", shown(c), b, e, want)
	}
}

// shown is a config as a failed test tells it.
func shown(c api.Config) any {
	if n := len(plain(c)); n > 400 {
		return n
	}
	return c
}

// marked are numbers with what is to be said of them.
type marked struct {
	v    int
	want api.Errno
}

func TestErrorsAndLimitsThatComeHere(t *testing.T) {
	want := []api.Errno{api.OK, api.ErrArg, api.ErrRange, api.ErrMany, api.ErrForm, api.ErrShort, api.ErrRest, api.ErrOrder, api.ErrTwice, api.ErrOp, api.ErrReg, api.ErrUnused, api.ErrJump, api.ErrLock}
	for i, e := range want {
		if int(e) != i {
			t.Errorf("the error %d is %d", i, e)
		}
	}
	if api.ErrBytes != 22 {
		t.Errorf("ErrBytes is %d", api.ErrBytes)
	}
	limits := []int{api.MaxParts, api.MaxProcs, api.MaxTable, api.MaxFuel, api.MaxLane, api.MaxLocks, api.MaxLog, api.MaxCode, api.MaxBytes}
	if !slices.Equal(limits, []int{8, 32, 64, 256, 64, 8, 4096, 256, 1048576}) {
		t.Errorf("the limits are %d", limits)
	}
}

// P14.1

func TestExamplesOfMay(t *testing.T) {
	noFuel := func(c *api.Config) { c.Fuel = 0 }
	may(t, small(), api.OK, 0)
	may(t, turned(noFuel), api.ErrRange, 2)
	may(t, turned(noFuel, func(c *api.Config) { c.Labels = []uint64{1, 0} }), api.ErrOrder, 0)
	may(t, turned(func(c *api.Config) { c.Table = []int{2} }), api.ErrRange, 1)
	may(t, turned(func(c *api.Config) { c.Procs = nil }), api.ErrArg, 6)
	may(t, turned(func(c *api.Config) { c.Procs[0].Part = 2 }), api.ErrRange, 7)
	may(t, turned(func(c *api.Config) { c.Procs[0].Code = []api.Ins{{Op: api.OpLock, Imm: 1}} }), api.ErrLock, 7)
}

func TestMayTakesWhatMayBe(t *testing.T) {
	for _, c := range []api.Config{least(), small(), wide(), greatest()} {
		may(t, c, api.OK, 0)
	}
	var c chance
	for range 300 {
		may(t, c.config(), api.OK, 0)
	}
}

func TestMayOfNothing(t *testing.T) {
	may(t, api.Config{}, api.ErrArg, 0)
	may(t, api.Config{Labels: []uint64{}, Table: []int{}, Procs: []api.Proc{}}, api.ErrArg, 0)
}

func TestMayOfLabels(t *testing.T) {
	const top = math.MaxUint64
	for _, c := range []struct {
		l    []uint64
		want api.Errno
	}{
		{nil, api.ErrArg}, {[]uint64{}, api.ErrArg},
		{[]uint64{0, 1}, api.OK}, {[]uint64{0, top}, api.OK}, {[]uint64{top - 1, top}, api.OK}, {[]uint64{1<<63 - 1, 1 << 63}, api.OK},
		{[]uint64{5, 6, 7, 8, 9, 10, 11, 12}, api.OK}, {[]uint64{5, 6, 7, 8, 9, 10, 11, 12, 13}, api.ErrMany}, {make([]uint64, 9), api.ErrMany}, {make([]uint64, 999), api.ErrMany},
		{[]uint64{0, 0}, api.ErrTwice}, {[]uint64{top, top}, api.ErrTwice}, {[]uint64{1, 2, 2, 3}, api.ErrTwice}, {[]uint64{1, 2, 3, 3, 1}, api.ErrTwice},
		{[]uint64{1, 0}, api.ErrOrder}, {[]uint64{top, 0}, api.ErrOrder}, {[]uint64{1 << 63, 1<<63 - 1}, api.ErrOrder}, {[]uint64{1, 3, 2, 2}, api.ErrOrder}, {[]uint64{1, 2, 1}, api.ErrOrder},
	} {
		may(t, turned(func(x *api.Config) { x.Labels = c.l }), c.want, 0)
	}
	for _, label := range []uint64{0, 1, 1 << 63, top} {
		x := least()
		x.Labels = []uint64{label}
		may(t, x, api.OK, 0)
	}
}

func TestMayOfTable(t *testing.T) {
	may(t, turned(func(c *api.Config) { c.Table = nil }), api.ErrArg, 1)
	may(t, turned(func(c *api.Config) { c.Table = []int{} }), api.ErrArg, 1)
	for n := 1; n <= 64; n++ {
		may(t, turned(func(c *api.Config) { c.Table = make([]int, n) }), api.OK, 0)
	}
	for _, n := range []int{65, 66, 255, 256, 257, 320, 4096} {
		may(t, turned(func(c *api.Config) { c.Table = make([]int, n) }), api.ErrMany, 1)
		// Too many are told, and not that one is none: both are of one part.
		may(t, turned(func(c *api.Config) { c.Table = slices.Repeat([]int{-1}, n) }), api.ErrMany, 1)
	}
}

func TestMayOfEntries(t *testing.T) {
	for parts := 1; parts <= 8; parts++ {
		c := greatest()
		c.Labels, c.Procs = c.Labels[:parts], []api.Proc{{}}
		for at := range 64 {
			c.Table = slices.Repeat([]int{parts - 1}, 64)
			may(t, c, api.OK, 0)
			for _, v := range append([]int{parts, parts + 1, 8, 256, 256 + parts - 1}, wild...) {
				c.Table[at] = v
				may(t, c, api.ErrRange, 1)
			}
		}
	}
}

func TestMayOfNumbers(t *testing.T) {
	for _, c := range []struct {
		part, least, most int
		set               func(c *api.Config, v int)
	}{
		{2, 1, 256, func(c *api.Config, v int) { c.Fuel = v }},
		{3, 1, 64, func(c *api.Config, v int) { c.Lane = v }},
		{4, 0, 8, func(c *api.Config, v int) { c.Locks = v }},
		{5, 0, 4096, func(c *api.Config, v int) { c.Log = v }},
	} {
		for v := c.least; v <= c.most; v++ {
			may(t, turned(func(x *api.Config) { c.set(x, v) }), api.OK, 0)
		}
		for _, v := range append([]int{c.least - 1, c.most + 1, c.most + 2, 65536 + c.least, 5000}, wild...) {
			may(t, turned(func(x *api.Config) { c.set(x, v) }), api.ErrRange, c.part)
		}
	}
}

func TestMayOfHowManyProcesses(t *testing.T) {
	may(t, turned(func(c *api.Config) { c.Procs = nil }), api.ErrArg, 6)
	may(t, turned(func(c *api.Config) { c.Procs = []api.Proc{} }), api.ErrArg, 6)
	for n := 1; n <= 32; n++ {
		may(t, turned(func(c *api.Config) { c.Procs = make([]api.Proc, n) }), api.OK, 0)
	}
	for _, n := range []int{33, 34, 255, 256, 257, 288, 5000} {
		may(t, turned(func(c *api.Config) { c.Procs = make([]api.Proc, n) }), api.ErrMany, 6)
		may(t, turned(func(c *api.Config) { c.Procs = slices.Repeat([]api.Proc{{Part: -1}}, n) }), api.ErrMany, 6)
	}
}

func TestMayOfParts(t *testing.T) {
	for parts := 1; parts <= 8; parts++ {
		for at := range 32 {
			c := least()
			c.Labels, c.Procs = greatest().Labels[:parts], make([]api.Proc, 32)
			for v := range parts {
				c.Procs[at].Part = v
				may(t, c, api.OK, 0)
			}
			for _, v := range append([]int{parts, parts + 1, 255, 256}, wild...) {
				c.Procs[at].Part = v
				may(t, c, api.ErrRange, 7+at)
			}
		}
	}
}

func TestMayOfHowManyInstructions(t *testing.T) {
	for _, at := range []int{0, 1, 31} {
		for _, c := range []marked{{0, api.OK}, {1, api.OK}, {255, api.OK}, {256, api.OK}, {257, api.ErrMany}, {512, api.ErrMany}, {65536, api.ErrMany}} {
			x := small()
			x.Procs = make([]api.Proc, 32)
			x.Procs[at].Code = make([]api.Ins, c.v)
			if c.want == api.OK {
				may(t, x, api.OK, 0)
				continue
			}
			may(t, x, c.want, 7+at)
			// Too many are told, and not that one of them is none.
			x.Procs[at].Code[0].Op = -1
			may(t, x, c.want, 7+at)
		}
	}
}

// wrongs are instructions that may not stand in a program of three, on a machine with two locks.
func wrongs() []struct {
	x    api.Ins
	want api.Errno
	at   int // at which byte what is wrong begins
} {
	return []struct {
		x    api.Ins
		want api.Errno
		at   int
	}{
		{api.Ins{Op: api.Ops}, api.ErrOp, 0}, {api.Ins{Op: 255, A: 9, Imm: 9}, api.ErrOp, 0},
		{api.Ins{Op: api.OpSet, A: 8}, api.ErrReg, 1}, {api.Ins{Op: api.OpOut, A: 255, B: 1, Imm: 1}, api.ErrReg, 1},
		{api.Ins{Op: api.OpIf, A: 8, Imm: 4}, api.ErrReg, 1},
		{api.Ins{Op: api.OpMove, A: 7, B: 8}, api.ErrReg, 2}, {api.Ins{Op: api.OpSend, A: 7, B: 9, C: 9}, api.ErrReg, 2},
		{api.Ins{Op: api.OpAdd, A: 7, B: 7, C: 8}, api.ErrReg, 3}, {api.Ins{Op: api.OpFLess, C: 8, Imm: 1}, api.ErrReg, 3},
		{api.Ins{Op: api.OpExit, A: 1}, api.ErrUnused, 1}, {api.Ins{Op: api.OpJump, A: 1, Imm: 4}, api.ErrUnused, 1}, {api.Ins{Op: api.OpLock, A: 1, Imm: 2}, api.ErrUnused, 1},
		{api.Ins{Op: api.OpSet, A: 1, B: 1}, api.ErrUnused, 2}, {api.Ins{Op: api.OpIf, B: 8, Imm: 4}, api.ErrUnused, 2}, {api.Ins{Op: api.OpUnlock, B: 1, Imm: 2}, api.ErrUnused, 2},
		{api.Ins{Op: api.OpRecv, A: 1, B: 1, C: 1}, api.ErrUnused, 3}, {api.Ins{Op: api.OpIf, C: 1, Imm: 4}, api.ErrUnused, 3}, {api.Ins{Op: api.OpLock, C: 1, Imm: 2}, api.ErrUnused, 3},
		{api.Ins{Op: api.OpExit, Imm: 1}, api.ErrUnused, 4}, {api.Ins{Op: api.OpSend, A: 1, B: 2, C: 3, Imm: -1}, api.ErrUnused, 4}, {api.Ins{Op: api.OpNow, Imm: math.MinInt64}, api.ErrUnused, 4},
		{api.Ins{Op: api.OpJump, Imm: 4}, api.ErrJump, 4}, {api.Ins{Op: api.OpJump, Imm: -1}, api.ErrJump, 4}, {api.Ins{Op: api.OpIf, A: 7, Imm: 4}, api.ErrJump, 4}, {api.Ins{Op: api.OpIf, Imm: 1 << 32}, api.ErrJump, 4},
		{api.Ins{Op: api.OpLock, Imm: 2}, api.ErrLock, 4}, {api.Ins{Op: api.OpLock, Imm: 7}, api.ErrLock, 4}, {api.Ins{Op: api.OpUnlock, Imm: 2}, api.ErrLock, 4}, {api.Ins{Op: api.OpUnlock, Imm: -1}, api.ErrLock, 4}, {api.Ins{Op: api.OpLock, Imm: 256}, api.ErrLock, 4},
	}
}

// holding is a config of two locks with a program of three instructions at a place among others.
func holding(procs, at int, program ...api.Ins) api.Config {
	c := small()
	c.Locks, c.Procs = 2, make([]api.Proc, procs)
	for i := range c.Procs {
		c.Procs[i] = api.Proc{Part: i % 2, Code: lawfuls(i%5, 2)}
	}
	c.Procs[at].Code = program
	return c
}

func TestMayOfInstructions(t *testing.T) {
	right := api.Ins{Op: api.OpIf, A: 7, Imm: 3}
	for _, w := range wrongs() {
		for _, at := range []int{0, 1, 6} {
			may(t, holding(7, at, w.x, right, right), w.want, 7+at)
			may(t, holding(7, at, right, right, w.x), w.want, 7+at)
			may(t, holding(7, at, right, w.x, api.Ins{Op: -1}), w.want, 7+at)
		}
	}
	for _, v := range wild {
		may(t, holding(1, 0, api.Ins{Op: v}), api.ErrOp, 7)
		may(t, holding(1, 0, api.Ins{Op: api.OpSet, A: v}), api.ErrReg, 7)
		may(t, holding(1, 0, api.Ins{Op: api.OpSet, C: v}), api.ErrUnused, 7)
		may(t, holding(1, 0, api.Ins{Op: api.OpJump, Imm: int64(v)}), api.ErrJump, 7)
		may(t, holding(1, 0, api.Ins{Op: api.OpLock, Imm: int64(v)}), api.ErrLock, 7)
		may(t, holding(1, 0, api.Ins{Op: api.OpSet, Imm: int64(v)}), api.OK, 0)
	}
}

func TestMayOfTheConfigsOwnLocks(t *testing.T) {
	for locks := range 9 {
		for imm := range int64(10) {
			for _, op := range []int{api.OpLock, api.OpUnlock} {
				c := holding(3, 2, api.Ins{Op: op, Imm: imm})
				c.Locks, c.Procs[0].Code, c.Procs[1].Code = locks, nil, nil
				if int(imm) < locks {
					may(t, c, api.OK, 0)
				} else {
					may(t, c, api.ErrLock, 9)
				}
			}
		}
	}
}

func TestMayOfJumpsWithinEachProgram(t *testing.T) {
	for n := 1; n <= 256; n++ {
		l := make([]api.Ins, n)
		l[n-1] = api.Ins{Op: api.OpJump, Imm: int64(n)}
		// The longer program ahead of it doesn't count.
		c := turned(func(c *api.Config) { c.Procs = []api.Proc{{Code: make([]api.Ins, 256)}, {Code: l}} })
		may(t, c, api.OK, 0)
		l[n-1].Imm++
		may(t, c, api.ErrJump, 8)
	}
}

// spoilt are changes of the example by which it may not be, in the order of the parts; of one part in the order of its errors.
func spoilt() []struct {
	do   func(c *api.Config)
	want api.Errno
	part int
} {
	return []struct {
		do   func(c *api.Config)
		want api.Errno
		part int
	}{
		{func(c *api.Config) { c.Labels = []uint64{3, 3} }, api.ErrTwice, 0},
		{func(c *api.Config) { c.Table = []int{0, 2} }, api.ErrRange, 1},
		{func(c *api.Config) { c.Fuel = 0 }, api.ErrRange, 2},
		{func(c *api.Config) { c.Lane = 65 }, api.ErrRange, 3},
		{func(c *api.Config) { c.Locks = -1 }, api.ErrRange, 4},
		{func(c *api.Config) { c.Log = 4097 }, api.ErrRange, 5},
		{func(c *api.Config) { c.Procs = append(c.Procs, make([]api.Proc, 30)...) }, api.ErrMany, 6},
		{func(c *api.Config) { c.Procs[0].Part = 2 }, api.ErrRange, 7},
		{func(c *api.Config) { c.Procs[0].Code = []api.Ins{{Op: api.OpExit, B: 1}} }, api.ErrUnused, 7},
		{func(c *api.Config) { c.Procs[1].Part = -1 }, api.ErrRange, 8},
		{func(c *api.Config) { c.Procs[1].Code = []api.Ins{{}, {Op: api.OpSet, A: 8}} }, api.ErrReg, 8},
		{func(c *api.Config) { c.Procs[2].Code = []api.Ins{{Op: api.OpJump, Imm: 2}} }, api.ErrJump, 9},
	}
}

func TestMayTellsTheFirst(t *testing.T) {
	all := spoilt()
	for first := range 1 << len(all) {
		c := turned(func(c *api.Config) { c.Procs = make([]api.Proc, 3) })
		want, part := api.OK, 0
		for i := range all {
			if first>>i&1 == 0 {
				continue
			}
			all[i].do(&c)
			if want == api.OK {
				want, part = all[i].want, all[i].part
			}
		}
		if e, at := May(c); e != want || at != part {
			t.Fatalf("%b: May: %d, %d, not %d, %d", first, e, at, want, part)
		}
		if b, e := Encode(c); e != want || (len(b) == 0) != (want != api.OK) {
			t.Fatalf("%b: Encode: %x, %d, not %d", first, b, e, want)
		}
	}
}

// Locks that may not be are told as such, not by code.May's error of a program.
func TestMayOfLocksThatMayNotBe(t *testing.T) {
	for _, v := range append([]int{9}, wild...) {
		c := holding(1, 0, api.Ins{Op: api.OpLock, Imm: 1})
		c.Locks = v
		may(t, c, api.ErrRange, 4)
	}
}

func TestMayAsTheTableHasIt(t *testing.T) {
	var c chance
	seen := map[api.Errno]int{}
	for range 20000 {
		x := c.config()
		for range 1 + c.next(3) {
			c.spoil(&x)
		}
		want, part := wanted(x)
		seen[want]++
		if e, at := May(x); e != want || at != part {
			t.Fatalf("May(%v): %d, %d, not %d, %d", shown(x), e, at, want, part)
		}
		b, e := Encode(x)
		if e != want || want != api.OK && len(b) != 0 || want == api.OK && !bytes.Equal(b, plain(x)) {
			t.Fatalf("Encode(%v): %x, %d, not %d", shown(x), b, e, want)
		}
	}
	for _, e := range []api.Errno{api.OK, api.ErrArg, api.ErrRange, api.ErrMany, api.ErrOrder, api.ErrTwice, api.ErrOp, api.ErrReg, api.ErrUnused, api.ErrJump, api.ErrLock} {
		if seen[e] == 0 {
			t.Errorf("no config had the error %d", e)
		}
	}
}

// P14.2

// skeleton asks both ways.
func skeleton(t *testing.T, a, b api.Config, want bool) {
	t.Helper()
	if is, back := Skeleton(a, b), Skeleton(b, a); is != want || back != want {
		t.Errorf("Skeleton(%v, %v): %v, %v", shown(a), shown(b), is, back)
	}
}

// unlawful are configs that may not be.
func unlawful() []api.Config {
	bad := turned(func(c *api.Config) {
		c.Labels, c.Table = []uint64{5, 5, 1}, []int{-1, 9, 9}
		c.Fuel, c.Lane, c.Locks, c.Log = -1, 999, math.MaxInt, math.MinInt
		c.Procs = []api.Proc{{Part: -3, Code: []api.Ins{{Op: -1}}}, {Part: 99}, {Part: 99}}
	})
	many := turned(func(c *api.Config) {
		c.Labels, c.Table, c.Procs = make([]uint64, 20), make([]int, 200), make([]api.Proc, 100)
	})
	return []api.Config{bad, many}
}

func TestExamplesOfSkeleton(t *testing.T) {
	skeleton(t, small(), small(), true)
	skeleton(t, small(), turned(func(c *api.Config) { c.Procs[0].Code[0].Op = api.OpTry }), true)
	skeleton(t, small(), turned(func(c *api.Config) { c.Procs[0].Part = 0 }), false)
	skeleton(t, small(), turned(func(c *api.Config) { c.Fuel = 3 }), false)
}

func TestSkeletonDoesNotLookAtPrograms(t *testing.T) {
	programs := [][]api.Ins{nil, {}, {{}}, {{Op: -1, A: 99}}, lawfuls(256, 8), make([]api.Ins, 300)}
	for _, c := range append(unlawful(), least(), small(), wide(), greatest()) {
		skeleton(t, c, copied(c), true)
		for i := range c.Procs {
			for _, p := range programs {
				other := copied(c)
				other.Procs[i].Code = p
				skeleton(t, c, other, true)
			}
		}
		other := copied(c)
		for i := range other.Procs {
			other.Procs[i].Code = programs[i%len(programs)]
		}
		skeleton(t, c, other, true)
	}
}

func TestSkeletonTellsApart(t *testing.T) {
	for _, c := range append(unlawful(), least(), small(), wide(), greatest()) {
		apart := func(change func(x *api.Config)) {
			t.Helper()
			other := copied(c)
			change(&other)
			skeleton(t, c, other, false)
		}
		for _, by := range []int{1, -1, 256, 1 << 32, 1 << 62} {
			apart(func(x *api.Config) { x.Fuel += by })
			apart(func(x *api.Config) { x.Lane += by })
			apart(func(x *api.Config) { x.Locks += by })
			apart(func(x *api.Config) { x.Log += by })
		}
		for i := range c.Labels {
			apart(func(x *api.Config) { x.Labels[i] ^= 1 << 63 })
			apart(func(x *api.Config) { x.Labels[i]++ })
		}
		for i := range c.Table {
			apart(func(x *api.Config) { x.Table[i]++ })
		}
		for i := range c.Procs {
			apart(func(x *api.Config) { x.Procs[i].Part-- })
		}
		apart(func(x *api.Config) { x.Labels = append(x.Labels, 0) })
		apart(func(x *api.Config) { x.Labels = x.Labels[1:] })
		apart(func(x *api.Config) { x.Labels = x.Labels[:len(x.Labels)-1] })
		apart(func(x *api.Config) { x.Table = append(x.Table, 0) })
		apart(func(x *api.Config) { x.Table = x.Table[1:] })
		apart(func(x *api.Config) { x.Table = x.Table[:len(x.Table)-1] })
		apart(func(x *api.Config) { x.Procs = append(x.Procs, api.Proc{}) })
		apart(func(x *api.Config) { x.Procs = x.Procs[1:] })
		apart(func(x *api.Config) { x.Procs = x.Procs[:len(x.Procs)-1] })
	}
}

// What is the same in another order is not the same.
func TestSkeletonTellsOrdersApart(t *testing.T) {
	c := wide()
	for _, change := range []func(x *api.Config){
		func(x *api.Config) { x.Labels[0], x.Labels[1] = x.Labels[1], x.Labels[0] },
		func(x *api.Config) { x.Table[0], x.Table[1] = x.Table[1], x.Table[0] },
		func(x *api.Config) { x.Procs[0], x.Procs[1] = x.Procs[1], x.Procs[0] },
		func(x *api.Config) { x.Fuel, x.Lane = x.Lane, x.Fuel },
		func(x *api.Config) { x.Lane, x.Locks = x.Locks, x.Lane },
		func(x *api.Config) { x.Locks, x.Log = x.Log, x.Locks },
	} {
		other := copied(c)
		change(&other)
		skeleton(t, c, other, false)
	}
	// Processes of one partition may change places: their programs alone differ.
	other := copied(c)
	other.Procs[2], other.Procs[3] = other.Procs[3], other.Procs[2]
	skeleton(t, c, other, true)
}

func TestSkeletonOfNothing(t *testing.T) {
	empty := api.Config{Labels: []uint64{}, Table: []int{}, Procs: []api.Proc{}}
	skeleton(t, api.Config{}, api.Config{}, true)
	skeleton(t, api.Config{}, empty, true)
	skeleton(t, api.Config{}, small(), false)
	empty.Log = 1
	skeleton(t, api.Config{}, empty, false)
}

// P14.3

func TestExampleOfEncode(t *testing.T) {
	want := []byte{
		0x46, 0x42, 0x43, 0x46, 1,
		2, 0, 0, 0, 0, 0, 0, 0, 0, 1, 0, 0, 0, 0, 0, 0, 0,
		2, 0, 1,
		2, 0, 1, 1, 4, 0,
		1,
		1, 1, 0, 0x19, 3, 4, 0, 0, 0, 0, 0, 0, 0, 0, 0,
	}
	if b, e := Encode(small()); e != api.OK || len(want) != 47 || !bytes.Equal(b, want) {
		t.Errorf("Encode: %x, %d", b, e)
	}
}

func TestEncodeByteByByte(t *testing.T) {
	c := api.Config{
		Labels: []uint64{0x0102030405060708, 1 << 63, math.MaxUint64}, Table: []int{2, 1, 0, 2}, Fuel: 256, Lane: 64, Locks: 8, Log: 4096,
		Procs: []api.Proc{{Part: 2, Code: []api.Ins{{Op: api.OpSet, A: 7, Imm: -2}, {Op: api.OpSend, A: 1, B: 2, C: 3}}}, {Part: 0}, {Part: 1, Code: []api.Ins{{Op: api.OpUnlock, Imm: 7}}}},
	}
	want := []byte{
		'F', 'B', 'C', 'F', 1,
		3, 8, 7, 6, 5, 4, 3, 2, 1, 0, 0, 0, 0, 0, 0, 0, 128, 255, 255, 255, 255, 255, 255, 255, 255,
		4, 2, 1, 0, 2,
		0, 1, 64, 8, 0, 16,
		3,
		2, 2, 0, 1, 7, 0, 0, 254, 255, 255, 255, 255, 255, 255, 255, 24, 1, 2, 3, 0, 0, 0, 0, 0, 0, 0, 0,
		0, 0, 0,
		1, 1, 0, 30, 0, 0, 0, 7, 0, 0, 0, 0, 0, 0, 0,
	}
	if b, e := Encode(c); e != api.OK || !bytes.Equal(b, want) {
		t.Errorf("Encode: %x, %d, not %x", b, e, want)
	}
	want = []byte{'F', 'B', 'C', 'F', 1, 1, 0, 0, 0, 0, 0, 0, 0, 0, 1, 0, 1, 0, 1, 0, 0, 0, 1, 0, 0, 0}
	if b, e := Encode(least()); e != api.OK || !bytes.Equal(b, want) {
		t.Errorf("Encode of the least: %x, %d, not %x", b, e, want)
	}
}

// How many instructions there are takes two bytes: 256 is 00 01.
func TestEncodeOfLongPrograms(t *testing.T) {
	for n := range 257 {
		c := least()
		c.Procs[0].Code = lawfuls(n, 0)
		b, e := Encode(c)
		if e != api.OK || !bytes.Equal(b, plain(c)) || b[24] != byte(n%256) || b[25] != byte(n/256) || len(b) != 26+12*n {
			t.Fatalf("Encode of %d instructions: %x, %d", n, b, e)
		}
	}
}

func TestEncodeRefuses(t *testing.T) {
	for _, s := range spoilt() {
		c := turned(func(c *api.Config) { c.Procs = make([]api.Proc, 3) })
		s.do(&c)
		if b, e := Encode(c); e != s.want || len(b) != 0 {
			t.Errorf("Encode(%v): %x, %d, not %d", shown(c), b, e, s.want)
		}
	}
	for _, c := range unlawful() {
		want, _ := wanted(c)
		if b, e := Encode(c); e != want || len(b) != 0 {
			t.Errorf("Encode(%v): %x, %d, not %d", shown(c), b, e, want)
		}
	}
}
