package conf

import (
	"bytes"
	"encoding/binary"
	"math"
	"slices"
	"testing"

	"firebreak/api"
	"firebreak/code"
)

// stop is what is wrong first, and where.
type stop struct {
	e  api.Errno
	at int
}

// places goes through bytes from the left.
type places struct {
	b        []byte
	from, at int
}

// number is the next one of so many bytes.
func (p *places) number(n int) uint64 {
	p.from = p.at
	if p.at+n > len(p.b) {
		panic(stop{api.ErrShort, len(p.b)})
	}
	p.at += n
	eight := [8]byte{}
	copy(eight[:], p.b[p.from:p.at])
	return binary.LittleEndian.Uint64(eight[:])
}

// small is the next number, which is wrong so if that holds.
func (p *places) small(n int, wrong func(v int) api.Errno) int {
	v := int(p.number(n))
	if e := wrong(v); e != api.OK {
		panic(stop{e, p.from})
	}
	return v
}

// ins is P14.4's sentence on instructions.
func (p *places) ins(n, locks int) api.Ins {
	from := p.at
	p.number(8)
	p.number(4)
	b := p.b[from:p.at]
	x := api.Ins{Op: int(b[0]), A: int(b[1]), B: int(b[2]), C: int(b[3]), Imm: int64(binary.LittleEndian.Uint64(b[4:]))}
	e := code.Check(x, n, locks)
	if e == api.OK {
		return x
	}
	if e == api.ErrOp {
		panic(stop{e, from})
	}
	hasA, hasB, hasC, _ := code.Fields(x.Op)
	for i, has := range []bool{hasA, hasB, hasC} {
		if v := b[1+i]; has && v > 7 || !has && v != 0 {
			panic(stop{e, from + 1 + i})
		}
	}
	panic(stop{e, from + 4})
}

func oneTo(most int) func(v int) api.Errno {
	return func(v int) api.Errno {
		if v == 0 {
			return api.ErrArg
		}
		if v > most {
			return api.ErrMany
		}
		return api.OK
	}
}

func from(least, most int) func(v int) api.Errno {
	return func(v int) api.Errno {
		if v < least || v > most {
			return api.ErrRange
		}
		return api.OK
	}
}

// told is P14.4 said plainly.
func told(b []byte) (c api.Config, e api.Errno, at int) {
	defer func() {
		switch s := recover().(type) {
		case nil:
		case stop:
			c, e, at = api.Config{}, s.e, s.at
		default:
			panic(s)
		}
	}()
	if len(b) > 1048576 {
		panic(stop{api.ErrBytes, 1048576})
	}
	p := &places{b: b}
	for _, want := range []byte{0x46, 0x42, 0x43, 0x46, 0x01} {
		if p.number(1) != uint64(want) {
			panic(stop{api.ErrForm, p.from})
		}
	}
	labels := p.small(1, oneTo(8))
	for i := range labels {
		c.Labels = append(c.Labels, p.number(8))
		if i > 0 && c.Labels[i] == c.Labels[i-1] {
			panic(stop{api.ErrTwice, p.from})
		}
		if i > 0 && c.Labels[i] < c.Labels[i-1] {
			panic(stop{api.ErrOrder, p.from})
		}
	}
	entries := p.small(1, oneTo(64))
	for range entries {
		c.Table = append(c.Table, p.small(1, from(0, labels-1)))
	}
	c.Fuel = p.small(2, from(1, 256))
	c.Lane = p.small(1, from(1, 64))
	c.Locks = p.small(1, from(0, 8))
	c.Log = p.small(2, from(0, 4096))
	procs := p.small(1, oneTo(32))
	for range procs {
		x := api.Proc{Part: p.small(1, from(0, labels-1))}
		n := p.small(2, func(v int) api.Errno {
			if v > 256 {
				return api.ErrMany
			}
			return api.OK
		})
		for range n {
			x.Code = append(x.Code, p.ins(n, c.Locks))
		}
		c.Procs = append(c.Procs, x)
	}
	if p.at < len(b) {
		panic(stop{api.ErrRest, p.at})
	}
	return c, api.OK, 0
}

// wrongAt asks that Decode tells an error and its place, and no config.
func wrongAt(t *testing.T, b []byte, want api.Errno, place int) {
	t.Helper()
	c, e, at := Decode(b)
	if e != want || at != place || !same(c, api.Config{}) {
		t.Errorf("Decode(%x): %v, %d at %d, not %d at %d", short(b), shown(c), e, at, want, place)
	}
}

// taken asks that Decode tells a config.
func taken(t *testing.T, b []byte, want api.Config) {
	t.Helper()
	if c, e, at := Decode(b); e != api.OK || at != 0 || !same(c, want) {
		t.Errorf("Decode(%x): %v, %d at %d, not %v", short(b), shown(c), e, at, shown(want))
	}
}

// decode asks that Decode tells what P14.4 has.
func decode(t *testing.T, b []byte) {
	t.Helper()
	want, e, at := told(b)
	if e == api.OK {
		taken(t, b, want)
	} else {
		wrongAt(t, b, e, at)
	}
}

// short are the bytes that a failed test tells.
func short(b []byte) []byte { return b[:min(len(b), 200)] }

// with are bytes with some changed, from a place on.
func with(b []byte, at int, v ...byte) []byte {
	b = bytes.Clone(b)
	copy(b[at:], v)
	return b
}

// P14.4

func TestExamplesOfDecode(t *testing.T) {
	b := plain(small())
	taken(t, b, small())
	wrongAt(t, b[:46], api.ErrShort, 46)
	wrongAt(t, nil, api.ErrShort, 0)
	wrongAt(t, []byte{}, api.ErrShort, 0)
	wrongAt(t, with(b, 4, 2), api.ErrForm, 4)
	wrongAt(t, with(b, 14, 0), api.ErrTwice, 14)
	wrongAt(t, with(b, 5, 9), api.ErrMany, 5)
	wrongAt(t, with(b, 24, 2), api.ErrRange, 24)
	wrongAt(t, append(bytes.Clone(b), 0), api.ErrRest, 47)
}

func TestDecodeTakesWhatMayBe(t *testing.T) {
	for _, c := range []api.Config{least(), small(), wide(), greatest()} {
		taken(t, plain(c), c)
	}
	var c chance
	for range 1000 {
		x := c.config()
		taken(t, plain(x), x)
	}
}

func TestDecodeOfManyBytes(t *testing.T) {
	const most = 1048576
	for _, c := range []api.Config{least(), small(), greatest()} {
		b := plain(c)
		long := append(bytes.Clone(b), make([]byte, most+100)...)
		wrongAt(t, long[:most-1], api.ErrRest, len(b))
		wrongAt(t, long[:most], api.ErrRest, len(b))
		// That there are too many is told ahead of all that is in them.
		for _, n := range []int{most + 1, most + 2, most + 100} {
			wrongAt(t, long[:n], api.ErrBytes, most)
			wrongAt(t, with(long[:n], 0, 'X'), api.ErrBytes, most)
		}
	}
	wrongAt(t, make([]byte, most), api.ErrForm, 0)
	wrongAt(t, make([]byte, most+1), api.ErrBytes, most)
}

func TestDecodeCut(t *testing.T) {
	for _, c := range []api.Config{least(), small(), wide()} {
		b := plain(c)
		for n := range b {
			wrongAt(t, b[:n], api.ErrShort, n)
		}
	}
	b := plain(greatest())
	for n := 0; n < len(b); n += 1 + n/97 {
		wrongAt(t, b[:n], api.ErrShort, n)
	}
	for n := len(b) - 40; n < len(b); n++ {
		wrongAt(t, b[:n], api.ErrShort, n)
	}
}

func TestDecodeWithBytesBehind(t *testing.T) {
	for _, c := range []api.Config{least(), small(), wide(), greatest()} {
		b := plain(c)
		for v := range 256 {
			wrongAt(t, append(bytes.Clone(b), byte(v)), api.ErrRest, len(b))
		}
		wrongAt(t, append(bytes.Clone(b), b...), api.ErrRest, len(b))
		wrongAt(t, append(bytes.Clone(b), make([]byte, 12)...), api.ErrRest, len(b))
	}
}

func TestDecodeOfWrongHeads(t *testing.T) {
	b := plain(small())
	for at := range 5 {
		for v := range 256 {
			if byte(v) == b[at] {
				continue
			}
			changed := with(b, at, byte(v))
			wrongAt(t, changed, api.ErrForm, at)
			// The wrong byte stands ahead of where the bytes end.
			for n := at + 1; n < 5; n++ {
				wrongAt(t, changed[:n], api.ErrForm, at)
			}
			for n := range at + 1 {
				wrongAt(t, changed[:n], api.ErrShort, n)
			}
			// And ahead of all others that are wrong.
			for later := at + 1; later < len(b); later++ {
				wrongAt(t, with(changed, later, 255), api.ErrForm, at)
			}
		}
	}
	for _, text := range []string{"fbcf\x01", "FBSC\x01", "FBSN\x01", "FBCF\x00", "FBCF1", "FBC\x01F", "\x01FBCF"} {
		decode(t, append([]byte(text), b[5:]...))
		if _, e, _ := Decode(append([]byte(text), b[5:]...)); e != api.ErrForm {
			t.Errorf("the head %q: %d", text, e)
		}
	}
}

// number is one of the bytes of a config: where it begins, how many bytes it has, and what it may be.
type number struct {
	at, size    int
	least, most int
	below       api.Errno // of less
	above       api.Errno // of more
}

// numbersOf are those of a config's bytes, but for labels and instructions.
func numbersOf(c api.Config) []number {
	parts := len(c.Labels)
	l := []number{{5, 1, 1, 8, api.ErrArg, api.ErrMany}}
	at := 6 + 8*parts
	l = append(l, number{at, 1, 1, 64, api.ErrArg, api.ErrMany})
	for range c.Table {
		at++
		l = append(l, number{at, 1, 0, parts - 1, api.OK, api.ErrRange})
	}
	l = append(l,
		number{at + 1, 2, 1, 256, api.ErrRange, api.ErrRange},
		number{at + 3, 1, 1, 64, api.ErrRange, api.ErrRange},
		number{at + 4, 1, 0, 8, api.OK, api.ErrRange},
		number{at + 5, 2, 0, 4096, api.OK, api.ErrRange},
		number{at + 7, 1, 1, 32, api.ErrArg, api.ErrMany})
	at += 8
	for _, p := range c.Procs {
		l = append(l, number{at, 1, 0, parts - 1, api.OK, api.ErrRange}, number{at + 1, 2, 0, 256, api.OK, api.ErrMany})
		at += 3 + 12*len(p.Code)
	}
	return l
}

// wrong are numbers that it may not be, with their errors.
func (n number) wrong() []marked {
	top := 1<<(8*n.size) - 1
	l := []marked{{n.most + 1, n.above}, {n.most + 2, n.above}, {top / 2, n.above}, {top - 1, n.above}, {top, n.above}}
	if n.least > 0 {
		l = append(l, marked{n.least - 1, n.below})
	}
	return l
}

// in are bytes with another number there.
func (n number) in(b []byte, v int) []byte {
	eight := binary.LittleEndian.AppendUint64(nil, uint64(v))
	return with(b, n.at, eight[:n.size]...)
}

func TestDecodeOfEachNumberMadeWrong(t *testing.T) {
	for _, c := range []api.Config{least(), small(), wide()} {
		b := plain(c)
		for _, n := range numbersOf(c) {
			for _, w := range n.wrong() {
				changed := n.in(b, w.v)
				wrongAt(t, changed, w.want, n.at)
				// It is told as soon as all of it is there, and not before.
				wrongAt(t, changed[:n.at+n.size], w.want, n.at)
				wrongAt(t, changed[:n.at+n.size-1], api.ErrShort, n.at+n.size-1)
				wrongAt(t, append(changed, 1, 2, 3), w.want, n.at)
			}
		}
	}
}

func TestDecodeOfEachNumberThatMayBe(t *testing.T) {
	c := least()
	b := plain(c)
	for v := 1; v <= 256; v++ {
		c.Fuel = v
		taken(t, with(b, 16, byte(v), byte(v>>8)), c)
	}
	c = least()
	for v := 1; v <= 64; v++ {
		c.Lane = v
		taken(t, with(b, 18, byte(v)), c)
	}
	c = least()
	for v := range 9 {
		c.Locks = v
		taken(t, with(b, 19, byte(v)), c)
	}
	c = least()
	for v := range 4097 {
		c.Log = v
		taken(t, with(b, 20, byte(v), byte(v>>8)), c)
	}
	c = least()
	for _, v := range []uint64{0, 1, 255, 256, 1 << 32, 1<<63 - 1, 1 << 63, math.MaxUint64} {
		c.Labels[0] = v
		taken(t, with(b, 6, binary.LittleEndian.AppendUint64(nil, v)...), c)
	}
}

func TestDecodeOfHowMany(t *testing.T) {
	for n := 1; n <= 64; n++ {
		c := least()
		c.Table = make([]int, n)
		taken(t, plain(c), c)
	}
	for n := 1; n <= 32; n++ {
		c := least()
		c.Procs = make([]api.Proc, n)
		taken(t, plain(c), c)
	}
	for n := range 257 {
		c := least()
		c.Procs[0].Code = lawfuls(n, 0)
		taken(t, plain(c), c)
	}
	for n := 1; n <= 8; n++ {
		c := least()
		c.Labels = greatest().Labels[:n]
		c.Table, c.Procs[0].Part = []int{n - 1}, n-1
		taken(t, plain(c), c)
	}
	// One more than there may be, all of which are there.
	c := greatest()
	c.Labels = append(c.Labels[:0], 1, 2, 3, 4, 5, 6, 7, 8, 9)
	wrongAt(t, plain(c), api.ErrMany, 5)
	c = greatest()
	c.Table = make([]int, 65)
	wrongAt(t, plain(c), api.ErrMany, 70)
	c = greatest()
	c.Procs = append(c.Procs, api.Proc{})
	wrongAt(t, plain(c), api.ErrMany, 141)
	c = greatest()
	c.Procs[31].Code = make([]api.Ins, 257)
	wrongAt(t, plain(c), api.ErrMany, 142+31*(3+12*256)+1)
	// And none.
	wrongAt(t, plain(turned(func(c *api.Config) { c.Labels = nil })), api.ErrArg, 5)
	wrongAt(t, plain(turned(func(c *api.Config) { c.Table = nil })), api.ErrArg, 22)
	wrongAt(t, plain(turned(func(c *api.Config) { c.Procs = nil })), api.ErrArg, 31)
}

func TestDecodeOfLabels(t *testing.T) {
	const top = math.MaxUint64
	for _, c := range []struct {
		l    []uint64
		want api.Errno
		at   int // which of them is wrong
	}{
		{[]uint64{0, 0}, api.ErrTwice, 1}, {[]uint64{top, top}, api.ErrTwice, 1}, {[]uint64{1, 2, 2, 1}, api.ErrTwice, 2}, {[]uint64{1, 2, 3, 4, 5, 6, 7, 7}, api.ErrTwice, 7},
		{[]uint64{1, 0}, api.ErrOrder, 1}, {[]uint64{top, 0}, api.ErrOrder, 1}, {[]uint64{1 << 63, 1<<63 - 1}, api.ErrOrder, 1}, {[]uint64{256, 255}, api.ErrOrder, 1},
		{[]uint64{1, 3, 2, 2}, api.ErrOrder, 2}, {[]uint64{1, 2, 1, 2}, api.ErrOrder, 2}, {[]uint64{1, 2, 3, 4, 5, 6, 7, 0}, api.ErrOrder, 7},
	} {
		b := plain(turned(func(x *api.Config) { x.Labels, x.Table, x.Fuel = c.l, []int{99}, 0 }))
		at := 6 + 8*c.at
		wrongAt(t, b, c.want, at)
		wrongAt(t, b[:at+8], c.want, at)
		wrongAt(t, b[:at+7], api.ErrShort, at+7)
	}
}

func TestDecodeOfInstructions(t *testing.T) {
	right := api.Ins{Op: api.OpIf, A: 7, Imm: 3}
	for _, w := range wrongs() {
		for i := range 3 {
			l := []api.Ins{right, right, right}
			l[i] = w.x
			c := holding(3, 1, l...)
			b := plain(c)
			at := 32 + 3 + 3 + 12*i
			wrongAt(t, b, w.want, at+w.at)
			wrongAt(t, append(b, 0), w.want, at+w.at)
			// What is wrong in it is told when its twelve bytes are there, and not before.
			wrongAt(t, b[:at+12], w.want, at+w.at)
			for n := range 12 {
				wrongAt(t, b[:at+n], api.ErrShort, at+n)
			}
			if i < 2 {
				c.Procs[1].Code[i+1] = api.Ins{Op: 255}
				wrongAt(t, plain(c), w.want, at+w.at)
			}
			c.Procs[2].Part = 9
			wrongAt(t, plain(c), w.want, at+w.at)
		}
	}
}

func TestDecodeOfTheConfigsOwnLocks(t *testing.T) {
	for locks := range 9 {
		for imm := range int64(10) {
			for _, op := range []int{api.OpLock, api.OpUnlock} {
				c := least()
				c.Locks, c.Procs[0].Code = locks, []api.Ins{{}, {Op: op, Imm: imm}}
				if int(imm) < locks {
					taken(t, plain(c), c)
				} else {
					wrongAt(t, plain(c), api.ErrLock, 26+12+4)
				}
			}
		}
	}
}

// A jump is held against how many instructions were told, whether they are there or not.
func TestDecodeOfJumps(t *testing.T) {
	for n := 1; n <= 256; n++ {
		for _, op := range []int{api.OpJump, api.OpIf} {
			c := least()
			c.Procs = []api.Proc{{Code: make([]api.Ins, n)}, {}}
			c.Procs[0].Code[0] = api.Ins{Op: op, Imm: int64(n)}
			b := plain(c)
			taken(t, b, c)
			wrongAt(t, b[:26+12], api.ErrShort, 26+12)
			c.Procs[0].Code[0].Imm++
			b = plain(c)
			wrongAt(t, b, api.ErrJump, 30)
			wrongAt(t, b[:26+12], api.ErrJump, 30)
		}
	}
}

// Each byte is changed into each other one.
func TestDecodeOfEachByteChanged(t *testing.T) {
	for _, c := range []api.Config{least(), small(), wide()} {
		b := plain(c)
		for at := range b {
			for v := range 256 {
				decode(t, with(b, at, byte(v)))
			}
		}
	}
}

// Two bytes are changed, and the bytes cut: the first thing that is wrong is told.
func TestDecodeTellsTheFirst(t *testing.T) {
	b := plain(small())
	for i := range b {
		for j := range i {
			for _, v := range []byte{0, 1, 2, 9, 65, 255} {
				for _, w := range []byte{0, 2, 33, 255} {
					changed := with(with(b, i, v), j, w)
					decode(t, changed)
					decode(t, changed[:i])
					decode(t, changed[:i+1])
				}
			}
		}
	}
}

func TestDecodeOfSpoiltConfigs(t *testing.T) {
	var c chance
	for range 20000 {
		x := c.config()
		for range c.next(3) {
			c.spoil(&x)
		}
		b := plain(x)
		decode(t, b)
		decode(t, b[:c.next(len(b)+1)])
	}
}

func TestDecodeOfAnyBytes(t *testing.T) {
	var c chance
	seen := map[api.Errno]int{}
	for range 30000 {
		b := plain(c.config())
		for range c.next(4) {
			switch at := c.next(len(b)); c.next(9) {
			case 0:
				b = slices.Delete(b, at, at+1)
			case 1:
				b = slices.Insert(b, at, byte(c.next(256)))
			case 2:
				// The second label, if there is one, is as the first.
				copy(b[min(14, len(b)):], b[min(6, len(b)):min(14, len(b))])
			default:
				b[at] = byte(c.next(1 << c.next(9)))
			}
		}
		decode(t, b)
		_, e, _ := told(b)
		seen[e]++
	}
	for e := api.OK; e <= api.ErrLock; e++ {
		if seen[e] == 0 {
			t.Errorf("no bytes had the error %d", e)
		}
	}
}

// P14.5

func TestDecodeOfEncodeIsTheConfig(t *testing.T) {
	var c chance
	all := []api.Config{least(), small(), wide(), greatest()}
	for range 1000 {
		all = append(all, c.config())
	}
	for _, x := range all {
		b, e := Encode(x)
		if e != api.OK || len(b) >= 1048576 {
			t.Fatalf("Encode(%v): %d bytes, %d", shown(x), len(b), e)
		}
		taken(t, b, x)
	}
}

func TestWhatIsTakenMayBeAndIsToldAgain(t *testing.T) {
	var c chance
	n := 0
	for range 60000 {
		b := plain(c.config())
		for range 1 + c.next(3) {
			b[c.next(len(b))] ^= 1 << c.next(8)
		}
		x, e, _ := Decode(b)
		if e != api.OK {
			continue
		}
		n++
		may(t, x, api.OK, 0)
		if again, e := Encode(x); e != api.OK || !bytes.Equal(again, b) {
			t.Fatalf("Encode(Decode(%x)): %x, %d", b, again, e)
		}
	}
	if n < 1000 {
		t.Errorf("only %d were taken", n)
	}
}

func TestTheMostBytesAreFewerThanMaxBytes(t *testing.T) {
	b, e := Encode(greatest())
	if want := 5 + 1 + 8*8 + 1 + 64 + 6 + 1 + 32*(1+2+12*256); e != api.OK || len(b) != want || want >= 1048576 {
		t.Errorf("%d bytes, %d, not %d", len(b), e, want)
	}
}

// P14.6

// spare is a list with room behind it, in which something stands.
func spare[T any](list, behind []T) []T { return slices.Concat(list, behind)[:len(list)] }

// whole is a list with all the room that is behind it.
func whole[T any](list []T) []T { return list[:cap(list)] }

// scribble writes over all that a list has, and the room behind it.
func scribble[T any](list []T, with T) {
	for i := range whole(list) {
		whole(list)[i] = with
	}
}

// roomy is a config whose lists all have room behind them, in which something stands.
func roomy(c api.Config) api.Config {
	c.Labels = spare(c.Labels, []uint64{71, 72, 73})
	c.Table = spare(c.Table, []int{71, 72, 73})
	c.Procs = spare(c.Procs, []api.Proc{{Part: 71, Code: []api.Ins{{Op: 71}}}, {Part: 72}})
	for i := range whole(c.Procs) {
		p := &whole(c.Procs)[i]
		p.Code = spare(p.Code, []api.Ins{{Op: 71, A: i}, {Op: 72, Imm: 7}})
	}
	return c
}

// opened is a config with all the room that is behind its lists.
func opened(c api.Config) api.Config {
	c.Labels, c.Table, c.Procs = whole(c.Labels), whole(c.Table), slices.Clone(whole(c.Procs))
	for i := range c.Procs {
		c.Procs[i].Code = whole(c.Procs[i].Code)
	}
	return c
}

// scrawl writes over all lists of a config, and the room behind them.
func scrawl(c api.Config) {
	for _, p := range whole(c.Procs) {
		scribble(p.Code, api.Ins{Op: 99, A: 99, B: 99, C: 99, Imm: 99})
	}
	scribble(c.Labels, 99)
	scribble(c.Table, 99)
	scribble(c.Procs, api.Proc{Part: 99})
}

func TestWhatIsHandedInIsLeftAsItWas(t *testing.T) {
	bad := small()
	bad.Procs[0].Code[0].A = 8
	for _, c := range append(unlawful(), api.Config{}, least(), small(), wide(), greatest(), bad) {
		r := roomy(c)
		before := copied(opened(r))
		May(r)
		Encode(r)
		Skeleton(r, c)
		Skeleton(c, r)
		Skeleton(r, r)
		if !same(opened(r), before) {
			t.Errorf("%v was changed", shown(c))
		}
	}
	for _, b := range [][]byte{nil, plain(least()), plain(small()), plain(wide()), plain(greatest()), plain(bad), plain(small())[:40], []byte("FBCG")} {
		r := spare(b, []byte{71, 72, 73})
		before := bytes.Clone(whole(r))
		Decode(r)
		if !bytes.Equal(whole(r), before) {
			t.Errorf("Decode changed %x", short(b))
		}
	}
}

// The room behind a list counts for nothing.
func TestSpareRoomIsNoPart(t *testing.T) {
	for _, c := range []api.Config{least(), small(), wide()} {
		r := roomy(c)
		may(t, r, api.OK, 0)
		skeleton(t, c, r, true)
		b := plain(c)
		taken(t, spare(b, []byte{1, 2, 3}), c)
		for n := range b {
			wrongAt(t, b[:n:len(b)], api.ErrShort, n)
		}
	}
}

func TestEncodeKeepsNothing(t *testing.T) {
	for _, c := range []api.Config{least(), small(), wide(), greatest()} {
		r := roomy(c)
		b, _ := Encode(r)
		other, _ := Encode(r)
		scrawl(r)
		if !bytes.Equal(b, plain(c)) {
			t.Errorf("the bytes of %v changed with it", shown(c))
		}
		scribble(b, 99)
		if !bytes.Equal(other, plain(c)) {
			t.Errorf("two answers of %v share memory", shown(c))
		}
		taken(t, other, c)
	}
}

func TestDecodeKeepsNothing(t *testing.T) {
	for _, c := range []api.Config{least(), small(), wide(), greatest()} {
		b := plain(c)
		first, _, _ := Decode(b)
		second, _, _ := Decode(b)
		scrawl(first)
		if !bytes.Equal(b, plain(c)) || !same(second, c) {
			t.Errorf("what was read of %v shares memory", shown(c))
		}
		scribble(b, 99)
		if !same(second, c) {
			t.Errorf("the config %v changed with its bytes", shown(c))
		}
		taken(t, plain(c), c)
	}
}

// Each list of an answer is written over, with the room behind it: no other one changes.
func TestNoTwoListsOfAConfigShareMemory(t *testing.T) {
	for _, c := range []api.Config{small(), wide(), greatest()} {
		for i := range c.Procs {
			got, _, _ := Decode(plain(c))
			scribble(got.Procs[i].Code, api.Ins{Op: 99})
			got.Procs[i].Code = c.Procs[i].Code
			if !same(got, c) {
				t.Errorf("the program %d of %v shares memory", i, shown(c))
			}
		}
		got, _, _ := Decode(plain(c))
		scribble(got.Labels, 99)
		got.Labels = c.Labels
		if !same(got, c) {
			t.Errorf("the labels of %v share memory", shown(c))
		}
		scribble(got.Table, 99)
		got.Table = c.Table
		if !same(got, c) {
			t.Errorf("the table of %v shares memory", shown(c))
		}
		programs := slices.Clone(got.Procs)
		scribble(got.Procs, api.Proc{Part: 99, Code: []api.Ins{{Op: 99}}})
		got.Procs = programs
		if !same(got, c) {
			t.Errorf("the processes of %v share memory", shown(c))
		}
	}
}

// One program that two processes share is told, and read, as two.
func TestOneProgramOfTwoProcesses(t *testing.T) {
	c := small()
	c.Procs = append(c.Procs, c.Procs[0])
	may(t, c, api.OK, 0)
	b, _ := Encode(c)
	got, e, _ := Decode(b)
	if e != api.OK || !same(got, c) {
		t.Fatalf("Decode: %v, %d", got, e)
	}
	got.Procs[0].Code[0].A = 99
	if got.Procs[1].Code[0].A != 3 {
		t.Error("both have one program")
	}
}

func TestTheSameCallHasTheSameAnswer(t *testing.T) {
	var c chance
	for range 500 {
		x := c.config()
		c.spoil(&x)
		b := plain(x)
		e, part := May(x)
		got, ed, at := Decode(b)
		Decode(plain(greatest()))
		May(greatest())
		if again, p := May(x); again != e || p != part {
			t.Fatalf("May(%v): %d, %d, then %d, %d", shown(x), e, part, again, p)
		}
		if other, e2, at2 := Decode(b); e2 != ed || at2 != at || !same(got, other) {
			t.Fatalf("Decode(%x): %d, %d, then %d, %d", short(b), ed, at, e2, at2)
		}
	}
}
