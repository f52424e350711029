package script

import (
	"bytes"
	"encoding/binary"
	"math"
	"slices"
	"testing"

	"firebreak/api"
)

// top is the greatest N that may be.
const top = 1<<32 - 1

// kinds are those of steps.
var kinds = []int{api.StepTick, api.StepInject, api.StepKill}

// noKinds are numbers of no kind; some have a kind's number as their lowest bytes.
var noKinds = []int{api.StepNone, 4, 5, 7, 127, 128, 255, 256, 257, 258, 259, 1<<16 + 1, 1<<32 + 1, 1<<32 + 2, -1, -2, -3, -255, -254, math.MinInt, math.MinInt + 1, math.MinInt + 2, math.MaxInt, math.MaxInt - 1}

// ns are numbers that an N may be, noNs such that it may not.
var (
	ns   = []int{0, 1, 2, 31, 32, 255, 256, 257, 65535, 65536, 65537, 1<<24 - 1, 1 << 24, 1<<31 - 1, 1 << 31, 1<<31 + 1, top - 1, top}
	noNs = []int{-1, -2, -256, -1 << 31, -1 << 32, math.MinInt, math.MinInt + 1, top + 1, top + 2, 1 << 33, 1 << 40, math.MaxInt - 1, math.MaxInt}
)

// vs are numbers that a V may be, but for 0.
var vs = []int64{1, 2, 255, 256, 0x0102030405060708, -1, -2, -256, 1 << 31, 1 << 32, 1 << 56, -1 << 32, math.MinInt64, math.MinInt64 + 1, math.MaxInt64, math.MaxInt64 - 1}

// pair is the chapter's example.
func pair() []api.Step {
	return []api.Step{{Kind: api.StepTick, N: 258}, {Kind: api.StepInject, N: 1, V: -2}}
}

// mixed is a script of all kinds, each next to each.
func mixed() []api.Step {
	return []api.Step{
		{Kind: api.StepTick, N: 1}, {Kind: api.StepTick, N: 0x01020304},
		{Kind: api.StepInject, N: top, V: math.MinInt64}, {Kind: api.StepInject, N: 0, V: 0x0102030405060708},
		{Kind: api.StepKill, N: 31}, {Kind: api.StepKill, N: 0},
		{Kind: api.StepTick, N: top}, {Kind: api.StepKill, N: top},
		{Kind: api.StepInject, N: 7}, {Kind: api.StepTick},
	}
}

// turn is a script of n steps that may be, of all kinds in turn.
func turn(n int) []api.Step {
	l := make([]api.Step, n)
	for i := range l {
		l[i] = api.Step{Kind: kinds[i%3], N: i}
		if i%3 == 1 {
			l[i].V = -int64(i)
		}
	}
	return l
}

// injects is a script of n steps, as long as they may be.
func injects(n int) []api.Step {
	return slices.Repeat([]api.Step{{Kind: api.StepInject, N: top, V: -1}}, n)
}

// scripts are those that may be of which much is asked.
func scripts() [][]api.Step {
	l := [][]api.Step{nil, {}, pair(), mixed(), turn(3), turn(255), turn(256), turn(257), turn(1023), turn(1024), injects(1024)}
	for _, k := range kinds {
		for _, n := range ns {
			l = append(l, []api.Step{{Kind: k, N: n}})
		}
	}
	for _, v := range vs {
		l = append(l, []api.Step{{Kind: api.StepInject, N: 5, V: v}})
	}
	return l
}

// marked is a step that may not be, and its error.
type marked struct {
	s    api.Step
	want api.Errno
}

// wrongs are steps that may not be: by each of their parts alone, and with later parts that may not be either.
func wrongs() []marked {
	var l []marked
	for _, k := range noKinds {
		for _, n := range []int{0, 1, top, -1, top + 1} {
			for _, v := range []int64{0, 1, -1, math.MinInt64} {
				l = append(l, marked{api.Step{Kind: k, N: n, V: v}, api.ErrArg})
			}
		}
	}
	for _, k := range kinds {
		for _, n := range noNs {
			for _, v := range []int64{0, 1, -1, math.MinInt64} {
				l = append(l, marked{api.Step{Kind: k, N: n, V: v}, api.ErrRange})
			}
		}
	}
	for _, k := range []int{api.StepTick, api.StepKill} {
		for _, n := range ns {
			for _, v := range vs {
				l = append(l, marked{api.Step{Kind: k, N: n, V: v}, api.ErrUnused})
			}
		}
	}
	return l
}

// wanted is P16.1 said plainly.
func wanted(l []api.Step) (api.Errno, int) {
	if len(l) > 1024 {
		return api.ErrMany, 1024
	}
	for i, s := range l {
		if !slices.Contains([]int{1, 2, 3}, s.Kind) {
			return api.ErrArg, i
		}
		if s.N < 0 || s.N >= 4294967296 {
			return api.ErrRange, i
		}
		if s.Kind != 2 && s.V != 0 {
			return api.ErrUnused, i
		}
	}
	return api.OK, 0
}

// plain is P16.2 said plainly, of any steps: of each number as many bytes as it has.
func plain(l []api.Step) []byte {
	b := []byte{0x46, 0x42, 0x53, 0x43, 0x01}
	b = binary.LittleEndian.AppendUint16(b, uint16(len(l)))
	for _, s := range l {
		b = append(b, byte(s.Kind))
		b = binary.LittleEndian.AppendUint32(b, uint32(s.N))
		if s.Kind == 2 {
			b = binary.LittleEndian.AppendUint64(b, uint64(s.V))
		}
	}
	return b
}

// shown is a list, cut where it is long.
func shown[T any](l []T) []T { return l[:min(len(l), 12)] }

// asked holds May and Encode of a script against what is said of it.
func asked(t *testing.T, l []api.Step, want api.Errno, place int) {
	t.Helper()
	if e, at := May(l); e != want || at != place {
		t.Errorf("May of %d steps %v: %d, %d, not %d, %d", len(l), shown(l), e, at, want, place)
	}
	b, e, at := Encode(l)
	if e != want || at != place {
		t.Errorf("Encode of %d steps %v: %d, %d, not %d, %d", len(l), shown(l), e, at, want, place)
	}
	if want != api.OK && len(b) != 0 {
		t.Errorf("Encode of %d steps %v: %x beside the error %d", len(l), shown(l), shown(b), want)
	}
	if want == api.OK && !bytes.Equal(b, plain(l)) {
		t.Errorf("Encode of %d steps %v: %x", len(l), shown(l), shown(b))
	}
}

// chance makes numbers that look like chance, the same ones each time.
type chance uint64

func (c *chance) next(n int) int {
	*c = *c*6364136223846793005 + 1442695040888963407
	return int(uint64(*c>>33) % uint64(n))
}

// step is one that may be.
func (c *chance) step() api.Step {
	s := api.Step{Kind: kinds[c.next(3)], N: c.next(1<<30) << 2 >> c.next(33)}
	if s.Kind == api.StepInject {
		s.V = (int64(c.next(1<<30))<<34 ^ int64(c.next(1<<30))<<4) >> c.next(64)
	}
	return s
}

// script is one that may be.
func (c *chance) script() []api.Step {
	l := make([]api.Step, c.next(1<<c.next(7)))
	for i := range l {
		l[i] = c.step()
	}
	return l
}

// spoil changes a part of a step, most often into something that may not be.
func (c *chance) spoil(l []api.Step) {
	if len(l) == 0 {
		return
	}
	s := &l[c.next(len(l))]
	switch c.next(4) {
	case 0:
		s.Kind = noKinds[c.next(len(noKinds))]
	case 1:
		s.N = noNs[c.next(len(noNs))]
	case 2:
		s.V = vs[c.next(len(vs))]
	case 3:
		s.Kind = kinds[c.next(3)]
	}
}

// P16.1, and P16.2's errors

func TestScriptsThatMayBe(t *testing.T) {
	for _, l := range scripts() {
		asked(t, l, api.OK, 0)
	}
}

func TestHowManySteps(t *testing.T) {
	for n := range 1025 {
		asked(t, turn(n), api.OK, 0)
	}
	for _, n := range []int{1025, 1026, 1027, 2048, 4096, 65535, 65536, 65537, 65536 + 1024} {
		asked(t, turn(n), api.ErrMany, 1024)
		// That is told, whatever the steps are.
		asked(t, make([]api.Step, n), api.ErrMany, 1024)
	}
}

func TestEachKind(t *testing.T) {
	for k := -300; k <= 300; k++ {
		want := api.ErrArg
		if k == 1 || k == 2 || k == 3 {
			want = api.OK
		}
		asked(t, []api.Step{{Kind: k, N: 1}}, want, 0)
	}
}

func TestEachN(t *testing.T) {
	for _, k := range kinds {
		for _, n := range ns {
			asked(t, []api.Step{{Kind: k, N: n}}, api.OK, 0)
		}
		for _, n := range noNs {
			asked(t, []api.Step{{Kind: k, N: n}}, api.ErrRange, 0)
		}
	}
}

func TestEachV(t *testing.T) {
	for _, v := range vs {
		asked(t, []api.Step{{Kind: api.StepInject, N: 1, V: v}}, api.OK, 0)
		asked(t, []api.Step{{Kind: api.StepTick, N: 1, V: v}}, api.ErrUnused, 0)
		asked(t, []api.Step{{Kind: api.StepKill, N: 1, V: v}}, api.ErrUnused, 0)
	}
	for _, k := range kinds {
		asked(t, []api.Step{{Kind: k, N: 1, V: 0}}, api.OK, 0)
	}
}

// Of a step with several faults the first is told.
func TestTheFirstFaultOfAStep(t *testing.T) {
	for _, w := range wrongs() {
		asked(t, []api.Step{w.s}, w.want, 0)
	}
	for _, w := range []marked{
		{api.Step{Kind: 4, N: -1, V: 1}, api.ErrArg}, {api.Step{Kind: 0, N: top + 1}, api.ErrArg}, {api.Step{Kind: -1, V: 1}, api.ErrArg},
		{api.Step{Kind: api.StepTick, N: -1, V: 1}, api.ErrRange}, {api.Step{Kind: api.StepKill, N: top + 1, V: -1}, api.ErrRange},
		{api.Step{Kind: api.StepInject, N: -1, V: 1}, api.ErrRange}, {api.Step{Kind: api.StepTick, N: 1, V: 1}, api.ErrUnused},
	} {
		asked(t, []api.Step{w.s}, w.want, 0)
	}
}

// Of several steps with faults the first is told, with its place.
func TestTheFirstStepThatMayNotBe(t *testing.T) {
	bad := []marked{
		{api.Step{}, api.ErrArg}, {api.Step{Kind: 4, N: -1}, api.ErrArg},
		{api.Step{Kind: api.StepTick, N: -1}, api.ErrRange}, {api.Step{Kind: api.StepInject, N: top + 1}, api.ErrRange},
		{api.Step{Kind: api.StepKill, V: 1}, api.ErrUnused}, {api.Step{Kind: api.StepTick, N: 1, V: math.MinInt64}, api.ErrUnused},
	}
	for _, w := range bad {
		for at := range 1024 {
			l := turn(1024)
			l[at] = w.s
			asked(t, l, w.want, at)
			asked(t, l[:at+1], w.want, at)
			asked(t, l[:at], api.OK, 0)
		}
		for _, later := range bad {
			for at := range 9 {
				l := turn(10)
				l[at], l[at+1], l[9] = w.s, later.s, later.s
				asked(t, l, w.want, at)
			}
		}
	}
}

func TestMayOfAnySteps(t *testing.T) {
	var c chance
	seen := map[api.Errno]int{}
	for range 20000 {
		l := c.script()
		for range c.next(4) {
			c.spoil(l)
		}
		want, place := wanted(l)
		asked(t, l, want, place)
		seen[want]++
	}
	for _, e := range []api.Errno{api.OK, api.ErrArg, api.ErrRange, api.ErrUnused} {
		if seen[e] < 500 {
			t.Errorf("the error %d came %d times", e, seen[e])
		}
	}
}

// P16.2

func TestEncodeByteByByte(t *testing.T) {
	for _, c := range []struct {
		l    []api.Step
		want []byte // behind FBSC, 01
	}{
		{nil, []byte{0, 0}},
		{pair(), []byte{2, 0, 1, 2, 1, 0, 0, 2, 1, 0, 0, 0, 0xfe, 0xff, 0xff, 0xff, 0xff, 0xff, 0xff, 0xff}},
		{[]api.Step{{Kind: api.StepTick}}, []byte{1, 0, 1, 0, 0, 0, 0}},
		{[]api.Step{{Kind: api.StepKill}}, []byte{1, 0, 3, 0, 0, 0, 0}},
		{[]api.Step{{Kind: api.StepInject}}, []byte{1, 0, 2, 0, 0, 0, 0, 0, 0, 0, 0, 0, 0, 0, 0}},
		{[]api.Step{{Kind: api.StepTick, N: 0x01020304}}, []byte{1, 0, 1, 4, 3, 2, 1}},
		{[]api.Step{{Kind: api.StepKill, N: top}}, []byte{1, 0, 3, 255, 255, 255, 255}},
		{[]api.Step{{Kind: api.StepTick, N: top - 1}}, []byte{1, 0, 1, 254, 255, 255, 255}},
		{[]api.Step{{Kind: api.StepKill, N: 1 << 31}}, []byte{1, 0, 3, 0, 0, 0, 128}},
		{[]api.Step{{Kind: api.StepInject, N: 5, V: 0x0102030405060708}}, []byte{1, 0, 2, 5, 0, 0, 0, 8, 7, 6, 5, 4, 3, 2, 1}},
		{[]api.Step{{Kind: api.StepInject, N: 5, V: -1}}, []byte{1, 0, 2, 5, 0, 0, 0, 255, 255, 255, 255, 255, 255, 255, 255}},
		{[]api.Step{{Kind: api.StepInject, N: 5, V: math.MinInt64}}, []byte{1, 0, 2, 5, 0, 0, 0, 0, 0, 0, 0, 0, 0, 0, 128}},
		{[]api.Step{{Kind: api.StepInject, N: 5, V: math.MaxInt64}}, []byte{1, 0, 2, 5, 0, 0, 0, 255, 255, 255, 255, 255, 255, 255, 127}},
		{[]api.Step{{Kind: api.StepKill, N: 256}, {Kind: api.StepTick, N: 65536}, {Kind: api.StepKill, N: 1 << 24}}, []byte{3, 0, 3, 0, 1, 0, 0, 1, 0, 0, 1, 0, 3, 0, 0, 0, 1}},
	} {
		want := append([]byte("FBSC\x01"), c.want...)
		if b, e, at := Encode(c.l); e != api.OK || at != 0 || !bytes.Equal(b, want) {
			t.Errorf("Encode(%v): %x, %d, %d, not %x", c.l, b, e, at, want)
		}
		if l, e, at := Decode(want); e != api.OK || at != 0 || !slices.Equal(l, c.l) {
			t.Errorf("Decode(%x): %v, %d, %d, not %v", want, l, e, at, c.l)
		}
	}
}

func TestEncodeHowMany(t *testing.T) {
	for _, n := range []int{0, 1, 255, 256, 257, 511, 512, 1023, 1024} {
		b, e, _ := Encode(turn(n))
		if e != api.OK || !bytes.Equal(b[5:7], []byte{byte(n % 256), byte(n / 256)}) {
			t.Errorf("Encode of %d steps: %x, %d", n, shown(b), e)
		}
		ticks, _, _ := Encode(slices.Repeat([]api.Step{{Kind: api.StepTick}}, n))
		most, _, _ := Encode(injects(n))
		if len(ticks) != 7+5*n || len(most) != 7+13*n {
			t.Errorf("%d steps have %d and %d bytes", n, len(ticks), len(most))
		}
	}
}
