package script

import (
	"bytes"
	"encoding/binary"
	"math"
	"slices"
	"testing"

	"firebreak/api"
)

// stop is what is wrong first, and where.
type stop struct {
	e  api.Errno
	at int
}

// told is P16.3 said plainly.
func told(b []byte) (l []api.Step, e api.Errno, at int) {
	defer func() {
		switch s := recover().(type) {
		case nil:
		case stop:
			l, e, at = nil, s.e, s.at
		default:
			panic(s)
		}
	}()
	if len(b) > 1048576 {
		panic(stop{api.ErrBytes, 1048576})
	}
	next := 0
	number := func(size int, wrong func(v uint64) api.Errno) uint64 {
		if next+size > len(b) {
			panic(stop{api.ErrShort, len(b)})
		}
		v := binary.LittleEndian.Uint64(append(bytes.Clone(b[next:next+size]), make([]byte, 8)...))
		if e := wrong(v); e != api.OK {
			panic(stop{e, next})
		}
		next += size
		return v
	}
	unless := func(e api.Errno, right func(v uint64) bool) func(v uint64) api.Errno {
		return func(v uint64) api.Errno {
			if right(v) {
				return api.OK
			}
			return e
		}
	}
	all := unless(api.OK, func(uint64) bool { return true })
	for _, want := range []uint64{0x46, 0x42, 0x53, 0x43, 0x01} {
		number(1, unless(api.ErrForm, func(v uint64) bool { return v == want }))
	}
	n := number(2, unless(api.ErrMany, func(v uint64) bool { return v <= 1024 }))
	for range n {
		s := api.Step{Kind: int(number(1, unless(api.ErrArg, func(v uint64) bool { return 1 <= v && v <= 3 })))}
		s.N = int(number(4, all))
		if s.Kind == 2 {
			s.V = int64(number(8, all))
		}
		l = append(l, s)
	}
	if next < len(b) {
		panic(stop{api.ErrRest, next})
	}
	return l, api.OK, 0
}

// decode holds Decode against P16.3, and what it takes against P16.4.
func decode(t *testing.T, b []byte) {
	t.Helper()
	want, e, at := told(b)
	if e != api.OK {
		wrongAt(t, b, e, at)
		return
	}
	taken(t, b, want)
}

// taken asks that bytes are read as a script, which may be and is told by them.
func taken(t *testing.T, b []byte, want []api.Step) {
	t.Helper()
	l, e, at := Decode(b)
	if e != api.OK || at != 0 || !slices.Equal(l, want) {
		t.Errorf("Decode of %d bytes %x: %v, %d, %d, not %v", len(b), shown(b), shown(l), e, at, shown(want))
		return
	}
	if e, at := May(l); e != api.OK || at != 0 {
		t.Errorf("May of what Decode took of %x: %d, %d", shown(b), e, at)
	}
	if again, e, at := Encode(l); e != api.OK || at != 0 || !bytes.Equal(again, b) {
		t.Errorf("Encode(Decode(%x)): %x, %d, %d", shown(b), shown(again), e, at)
	}
}

// wrongAt asks that bytes are refused so, at that place.
func wrongAt(t *testing.T, b []byte, want api.Errno, place int) {
	t.Helper()
	if l, e, at := Decode(b); len(l) != 0 || e != want || at != place {
		t.Errorf("Decode of %d bytes %x: %v, %d, %d, not %d, %d", len(b), shown(b), shown(l), e, at, want, place)
	}
}

// with are bytes with others from a place on.
func with(b []byte, at int, other ...byte) []byte {
	b = bytes.Clone(b)
	copy(b[at:], other)
	return b
}

// behind are bytes with others behind them.
func behind(b []byte, other ...byte) []byte { return slices.Concat(b, other) }

// begins tells at which byte each step of a script begins.
func begins(l []api.Step) []int {
	places, at := []int{}, 7
	for _, s := range l {
		places = append(places, at)
		at += 5
		if s.Kind == api.StepInject {
			at += 8
		}
	}
	return places
}

// P16.3

func TestDecodeOfTheExamples(t *testing.T) {
	b := plain(pair())
	taken(t, b, pair())
	wrongAt(t, b[:24], api.ErrShort, 24)
	wrongAt(t, behind(b, 0), api.ErrRest, 25)
	wrongAt(t, with(b, 7, 4), api.ErrArg, 7)
	wrongAt(t, with(b, 6, 4), api.ErrMany, 5)
	wrongAt(t, []byte{0x46, 0x42, 0x53, 0x43, 0x02}, api.ErrForm, 4)
	taken(t, []byte{0x46, 0x42, 0x53, 0x43, 0x01, 0, 0}, nil)
	wrongAt(t, nil, api.ErrShort, 0)
	wrongAt(t, []byte{}, api.ErrShort, 0)
}

func TestDecodeOfScripts(t *testing.T) {
	for _, l := range scripts() {
		taken(t, plain(l), l)
	}
	for n := range 1025 {
		taken(t, plain(turn(n)), turn(n))
	}
}

// Bytes that end at each place but the last: the head, numbers and steps are cut within and between.
func TestDecodeOfBytesCut(t *testing.T) {
	for _, l := range [][]api.Step{nil, pair(), mixed(), turn(1024), injects(1024)} {
		b := plain(l)
		for n := range b {
			wrongAt(t, b[:n], api.ErrShort, n)
		}
	}
}

func TestDecodeOfBytesBehind(t *testing.T) {
	for _, l := range [][]api.Step{nil, pair(), mixed(), turn(1), turn(2), turn(3), turn(1024), injects(1024)} {
		b := plain(l)
		for v := range 256 {
			wrongAt(t, behind(b, byte(v)), api.ErrRest, len(b))
		}
		wrongAt(t, behind(b, b...), api.ErrRest, len(b))
		wrongAt(t, behind(b, plain(turn(3))[7:]...), api.ErrRest, len(b))
	}
}

// Each byte of the head is changed into each other one: that is told when it is there, ahead of all that is behind it.
func TestDecodeOfTheHeadChanged(t *testing.T) {
	b := plain(mixed())
	for at := range 5 {
		for v := range 256 {
			if byte(v) == b[at] {
				continue
			}
			changed := with(b, at, byte(v))
			for n := at + 1; n <= len(b); n++ {
				wrongAt(t, changed[:n], api.ErrForm, at)
			}
			for n := range at + 1 {
				wrongAt(t, changed[:n], api.ErrShort, n)
			}
			for later := at + 1; later < len(b); later++ {
				wrongAt(t, with(changed, later, 255), api.ErrForm, at)
			}
			wrongAt(t, behind(changed, 1, 2, 3), api.ErrForm, at)
		}
	}
	for _, c := range []struct {
		text string
		at   int
	}{{"fbsc\x01", 0}, {"FBCF\x01", 2}, {"FBSN\x01", 3}, {"FBSC\x00", 4}, {"FBSC1", 4}, {"FBS\x01C", 3}, {"\x01FBSC", 0}, {"FFBSC\x01", 1}, {"CSBF\x01", 0}} {
		wrongAt(t, behind([]byte(c.text), b[5:]...), api.ErrForm, c.at)
	}
}

// Each number of steps is told, whatever steps are there.
func TestDecodeOfHowMany(t *testing.T) {
	for _, l := range [][]api.Step{nil, pair(), mixed(), turn(300), turn(1024)} {
		b, places := plain(l), append(begins(l), len(plain(l)))
		for n := range 1 << 16 {
			if n != len(l) && n > 1030 && n%251 != 0 && n < 1<<16-3 {
				continue
			}
			changed := with(b, 5, byte(n), byte(n>>8))
			switch {
			case n > 1024:
				wrongAt(t, changed, api.ErrMany, 5)
				wrongAt(t, changed[:7], api.ErrMany, 5)
				wrongAt(t, changed[:6], api.ErrShort, 6)
			case n > len(l):
				wrongAt(t, changed, api.ErrShort, len(b))
			case n < len(l):
				wrongAt(t, changed, api.ErrRest, places[n])
				taken(t, changed[:places[n]], l[:n])
			default:
				taken(t, changed, l)
			}
		}
	}
	// One more than there may be, all of which are there; and that ahead of a step that may not be.
	wrongAt(t, plain(turn(1025)), api.ErrMany, 5)
	wrongAt(t, with(plain(turn(1025)), 7, 0), api.ErrMany, 5)
	wrongAt(t, with(plain(turn(1024)), 7, 0), api.ErrArg, 7)
}

// Each Kind is made one that is none: that is told when it is there, ahead of all that is behind it.
func TestDecodeOfEachKindMadeNone(t *testing.T) {
	for _, l := range [][]api.Step{pair(), mixed(), turn(12)} {
		b := plain(l)
		for _, at := range begins(l) {
			for v := range 256 {
				if v == 1 || v == 2 || v == 3 {
					continue
				}
				changed := with(b, at, byte(v))
				wrongAt(t, changed, api.ErrArg, at)
				wrongAt(t, changed[:at+1], api.ErrArg, at)
				wrongAt(t, changed[:at], api.ErrShort, at)
				wrongAt(t, behind(changed, 1, 2), api.ErrArg, at)
				for _, later := range begins(l) {
					if later > at {
						wrongAt(t, with(changed, later, 0), api.ErrArg, at)
					}
				}
			}
		}
	}
	for at, place := range begins(turn(1024)) {
		wrongAt(t, with(plain(turn(1024)), place, byte(at%2*4)), api.ErrArg, place)
	}
}

// A Kind is made another: what is behind it is read as that one's.
func TestDecodeOfEachKindMadeAnother(t *testing.T) {
	b := plain(pair())
	taken(t, with(plain(turn(1)), 7, 3), []api.Step{{Kind: api.StepKill}})
	wrongAt(t, with(plain(turn(1)), 7, 2), api.ErrShort, 12)
	wrongAt(t, with(b, 12, 1), api.ErrRest, 17)
	wrongAt(t, with(b, 12, 3), api.ErrRest, 17)
	wrongAt(t, with(b, 7, 2), api.ErrArg, 20)
	for _, l := range [][]api.Step{mixed(), turn(12)} {
		for _, at := range begins(l) {
			for _, k := range kinds {
				decode(t, with(plain(l), at, byte(k)))
			}
		}
	}
}

// All bytes of N and V may be anything.
func TestDecodeOfEachNAndV(t *testing.T) {
	for _, k := range kinds {
		for _, n := range ns {
			l := []api.Step{{Kind: k, N: n}}
			taken(t, plain(l), l)
		}
		for i := range 4 {
			for v := range 256 {
				l := []api.Step{{Kind: k, N: v << (8 * i)}}
				taken(t, with(plain([]api.Step{{Kind: k}}), 8+i, byte(v)), l)
			}
		}
	}
	for i := range 8 {
		for v := range 256 {
			l := []api.Step{{Kind: api.StepInject, V: int64(uint64(v) << (8 * i))}}
			taken(t, with(plain([]api.Step{{Kind: api.StepInject}}), 12+i, byte(v)), l)
		}
	}
	for _, v := range append([]int64{0}, vs...) {
		l := []api.Step{{Kind: api.StepInject, N: top, V: v}, {Kind: api.StepTick, N: top}}
		taken(t, plain(l), l)
	}
}

func TestDecodeOfMaxBytes(t *testing.T) {
	for _, b := range [][]byte{plain(nil), plain(mixed()), plain(turn(1024)), plain(injects(1024))} {
		most := behind(b, make([]byte, 1048576-len(b))...)
		wrongAt(t, most[:1048575], api.ErrRest, len(b))
		wrongAt(t, most, api.ErrRest, len(b))
		wrongAt(t, behind(most, 0), api.ErrBytes, 1048576)
		wrongAt(t, behind(most, most...), api.ErrBytes, 1048576)
		// Too many bytes are told ahead of what stands in them.
		for _, at := range []int{0, 4, 6, 7} {
			decode(t, with(most, at, 255))
			wrongAt(t, with(behind(most, 0), at, 255), api.ErrBytes, 1048576)
		}
	}
	wrongAt(t, make([]byte, 1048576), api.ErrForm, 0)
	wrongAt(t, make([]byte, 1048577), api.ErrBytes, 1048576)
}

// Each byte is changed into each other one.
func TestDecodeOfEachByteChanged(t *testing.T) {
	for _, l := range [][]api.Step{nil, pair(), mixed()} {
		b := plain(l)
		for at := range b {
			for v := range 256 {
				decode(t, with(b, at, byte(v)))
			}
		}
	}
}

// Two bytes are changed, and the bytes cut: the first thing that is wrong is told.
func TestDecodeTellsTheFirst(t *testing.T) {
	b := plain(mixed())
	for i := range b {
		for j := range i {
			for _, v := range []byte{0, 1, 2, 3, 4, 255} {
				for _, w := range []byte{0, 2, 4, 255} {
					changed := with(with(b, i, v), j, w)
					decode(t, changed)
					decode(t, changed[:i])
					decode(t, changed[:i+1])
				}
			}
		}
	}
}

func TestDecodeOfAnyBytes(t *testing.T) {
	var c chance
	seen := map[api.Errno]int{}
	for range 40000 {
		b := plain(c.script())
		for range c.next(4) {
			switch at := c.next(len(b)); c.next(8) {
			case 0:
				b = slices.Delete(b, at, at+1)
			case 1:
				b = slices.Insert(b, at, byte(c.next(256)))
			case 2:
				b = append(b, byte(c.next(4)))
			default:
				b[at] = byte(c.next(1 << c.next(9)))
			}
		}
		decode(t, b)
		_, e, _ := told(b)
		seen[e]++
	}
	for _, e := range []api.Errno{api.OK, api.ErrArg, api.ErrMany, api.ErrForm, api.ErrShort, api.ErrRest} {
		if seen[e] < 100 {
			t.Errorf("the error %d came %d times", e, seen[e])
		}
	}
}

// P16.4

func TestDecodeOfEncodeIsTheScript(t *testing.T) {
	var c chance
	all := scripts()
	for range 3000 {
		all = append(all, c.script())
	}
	for _, l := range all {
		b, e, _ := Encode(l)
		if e != api.OK {
			t.Fatalf("Encode(%v): %d", shown(l), e)
		}
		taken(t, b, l)
	}
}

func TestWhatIsTakenMayBeAndIsToldAgain(t *testing.T) {
	var c chance
	n := 0
	for range 40000 {
		b := plain(c.script())
		for range 1 + c.next(3) {
			b[c.next(len(b))] ^= 1 << c.next(8)
		}
		l, e, _ := Decode(b)
		if e != api.OK {
			continue
		}
		n++
		taken(t, b, l)
	}
	if n < 5000 {
		t.Errorf("only %d were taken", n)
	}
}

// R3, R4

// spare is a list with room behind it, in which something stands.
func spare[T any](list []T, more ...T) []T { return slices.Concat(list, more)[:len(list)] }

// whole is a list with all the room that is behind it.
func whole[T any](list []T) []T { return list[:cap(list)] }

// scribble writes over all that a list has, and the room behind it.
func scribble[T any](list []T, with T) {
	for i := range whole(list) {
		whole(list)[i] = with
	}
}

// junk is a step that is none.
var junk = api.Step{Kind: 99, N: -99, V: 99}

func TestWhatIsHandedInIsLeftAsItWas(t *testing.T) {
	lists := append(scripts(), turn(1025), []api.Step{junk}, []api.Step{{Kind: api.StepTick, N: -1}}, []api.Step{{Kind: api.StepKill, V: 1}}, append(mixed(), junk))
	for _, l := range lists {
		r := spare(l, junk, api.Step{Kind: api.StepTick, N: 71}, junk)
		before := slices.Clone(whole(r))
		May(r)
		Encode(r)
		if !slices.Equal(whole(r), before) {
			t.Errorf("%v was changed", shown(l))
		}
		b := spare(plain(l), 71, 72, 73)
		held := bytes.Clone(whole(b))
		Decode(b)
		Decode(b[:len(b)-1])
		Decode(b[:min(len(b), 6)])
		if !bytes.Equal(whole(b), held) {
			t.Errorf("Decode changed %x", shown(b))
		}
	}
	for _, b := range [][]byte{nil, []byte("FBSD"), make([]byte, 1048577), behind(plain(pair()), 9), with(plain(pair()), 7, 0), with(plain(pair()), 6, 9)} {
		r := spare(b, 71, 72, 73)
		held := bytes.Clone(whole(r))
		Decode(r)
		if !bytes.Equal(whole(r), held) {
			t.Errorf("Decode changed %x", shown(b))
		}
	}
}

// The room behind a list counts for nothing.
func TestSpareRoomIsNoPart(t *testing.T) {
	for _, l := range [][]api.Step{nil, pair(), mixed(), turn(1024)} {
		asked(t, spare(l, junk, junk), api.OK, 0)
		b := plain(l)
		taken(t, spare(b, 1, 2, 3), l)
		for n := range b {
			wrongAt(t, b[:n:len(b)], api.ErrShort, n)
		}
	}
}

func TestEncodeKeepsNothing(t *testing.T) {
	for _, l := range scripts() {
		r := spare(l, junk, junk)
		first, _, _ := Encode(r)
		second, _, _ := Encode(r)
		scribble(r, junk)
		if !bytes.Equal(first, plain(l)) {
			t.Errorf("the bytes of %v changed with it", shown(l))
		}
		scribble(first, 99)
		if !bytes.Equal(second, plain(l)) {
			t.Errorf("two answers of %v share memory", shown(l))
		}
		if third, _, _ := Encode(l); !bytes.Equal(third, plain(l)) {
			t.Errorf("Encode of %v hangs on an earlier answer", shown(l))
		}
		taken(t, second, l)
	}
}

func TestDecodeKeepsNothing(t *testing.T) {
	for _, l := range scripts() {
		b := spare(plain(l), 71, 72, 73)
		first, _, _ := Decode(b)
		second, _, _ := Decode(b)
		scribble(first, junk)
		if !bytes.Equal(b, plain(l)) || !slices.Equal(second, l) {
			t.Errorf("what was read of %v shares memory", shown(l))
		}
		scribble(b, 99)
		if !slices.Equal(second, l) {
			t.Errorf("the script %v changed with its bytes", shown(l))
		}
		taken(t, plain(l), l)
	}
}

func TestTheSameCallHasTheSameAnswer(t *testing.T) {
	var c chance
	for range 1000 {
		l := c.script()
		c.spoil(l)
		b := plain(l)
		e, at := May(l)
		told, te, tat := Encode(l)
		read, re, rat := Decode(b)
		Decode(plain(injects(1024)))
		Decode([]byte("FBSD"))
		Encode(turn(1024))
		May([]api.Step{junk})
		if again, a := May(l); again != e || a != at {
			t.Fatalf("May(%v): %d, %d, then %d, %d", shown(l), e, at, again, a)
		}
		if again, e2, at2 := Encode(l); !bytes.Equal(again, told) || e2 != te || at2 != tat {
			t.Fatalf("Encode(%v): %d, %d, then %d, %d", shown(l), te, tat, e2, at2)
		}
		if again, e2, at2 := Decode(b); !slices.Equal(again, read) || e2 != re || at2 != rat {
			t.Fatalf("Decode(%x): %d, %d, then %d, %d", shown(b), re, rat, e2, at2)
		}
	}
}

// R1: calls at once share nothing that is written.
func TestManyCallsAtOnce(t *testing.T) {
	done := make(chan bool)
	for i := range 8 {
		go func() {
			ok := true
			for n := range 100 {
				l := turn(n + i)
				b, e, _ := Encode(l)
				read, re, _ := Decode(b)
				ok = ok && e == api.OK && re == api.OK && slices.Equal(read, l)
			}
			done <- ok
		}()
	}
	for range 8 {
		if !<-done {
			t.Error("a script was read as another one")
		}
	}
}

// A V below 0 is told as if 2^64 were added, and read back so.
func TestNumbersBelowNought(t *testing.T) {
	for i, v := range []int64{-1, -2, -255, -256, -257, math.MinInt64} {
		l := []api.Step{{Kind: api.StepInject, N: i, V: v}}
		b, _, _ := Encode(l)
		if got := binary.LittleEndian.Uint64(b[12:]); got != -uint64(-v) {
			t.Errorf("%d is told as %d", v, got)
		}
		taken(t, b, l)
	}
}
