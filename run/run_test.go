package run

import (
	"bytes"
	"math"
	"slices"
	"testing"

	"firebreak/api"
	"firebreak/conf"
)

// noKinds are numbers of no kind; some have a kind's number as their lowest bytes.
var noKinds = []int{api.StepNone, 4, 5, 9, 127, 128, 255, 256, 257, 258, 259, 1<<16 + 1, 1<<32 + 1, 1<<32 + 2, -1, -2, -3, -255, math.MinInt, math.MinInt + 1, math.MinInt + 2, math.MaxInt, math.MaxInt - 1}

// wild are numbers of no process, and, above 0, of more ticks than may be; some have small ones as their lowest bytes.
var wild = []int{-1, -2, -256, -65536, -1 << 31, -1 << 32, 1 - 1<<32, math.MinInt, math.MinInt + 1, 65537, 65538, 1 << 17, 1<<31 - 1, 1 << 31, 1<<32 - 1, 1 << 32, 1<<32 + 1, 1 << 62, math.MaxInt - 65536, math.MaxInt - 1, math.MaxInt}

// values are such as a V may be.
var values = []int64{0, 1, 2, 255, 256, 1 << 31, 1 << 32, 1 << 40, -1, -2, -1 << 32, math.MinInt64, math.MinInt64 + 1, math.MaxInt64 - 1, math.MaxInt64}

// P17.1: the errors, limits and kinds that come here.

func TestErrorsLimitsAndKinds(t *testing.T) {
	for _, x := range []struct{ got, want int }{
		{int(api.OK), 0}, {int(api.ErrArg), 1}, {int(api.ErrMany), 3}, {int(api.ErrForm), 4}, {int(api.ErrShort), 5}, {int(api.ErrRest), 6},
		{int(api.ErrAbsent), 17}, {int(api.ErrDead), 18}, {int(api.ErrFull), 19}, {int(api.ErrBytes), 22},
		{api.MaxTicks, 65536}, {api.MaxSteps, 1024}, {api.MaxBytes, 1048576},
		{api.StepNone, 0}, {api.StepTick, 1}, {api.StepInject, 2}, {api.StepKill, 3},
	} {
		if x.got != x.want {
			t.Errorf("%d, not %d", x.got, x.want)
		}
	}
}

// P17.1: the chapter's examples.

func TestExampleOfSteps(t *testing.T) {
	x := start(t, small())
	x.told(ticks(3), answer(api.OK, 3, 0))
	x.told(inject(1, 9), answer(api.OK, 3, 0))
	x.told(kill(7), answer(api.ErrAbsent, 3, 0))
	x.told(ticks(0), answer(api.ErrArg, 3, 0))
	x.told(ticks(65534), answer(api.ErrMany, 3, 0))
	x.told(stepOf(9, 0, 0), answer(api.ErrArg, 3, 0))
}

func TestExampleOfAKillAtFirst(t *testing.T) {
	x := start(t, small())
	x.told(kill(0), answer(api.OK, 0, -1))
	if s := x.r.State(); s.Tick != 0 || s.Procs[0].State != api.Killed || s.Procs[1].State != api.Ready {
		t.Errorf("State: %+v", s)
	}
}

// P17.1: Boot.

func TestBootOfConfigsThatMayBe(t *testing.T) {
	for _, config := range append(configs(), greatest()) {
		start(t, config)
	}
	c := chance(1)
	for range 300 {
		x := start(t, c.any())
		x.refused(api.Step{}, api.ErrArg)
	}
}

func TestAtFirst(t *testing.T) {
	want := api.State{
		Parts: []api.Part{{Owners: []int{-1}, Queues: [][]int{nil}}, {Owners: []int{-1}, Queues: [][]int{nil}}},
		Procs: []api.Process{{Lanes: make([]api.Lane, 3)}, {Lanes: make([]api.Lane, 3)}},
	}
	if got := start(t, small()).r.State(); stand(got) != stand(want) {
		t.Errorf("State: %+v, not %+v", got, want)
	}
}

// barred asks that bytes are none of a config: all calls tell the error and its place, and nothing else.
func barred(t *testing.T, b []byte, want api.Errno, place int) {
	t.Helper()
	if r, e, at := Boot(b); r != nil || e != want || at != place {
		t.Errorf("Boot of %d bytes %x: %v, %d, %d, not %d, %d", len(b), b[:min(len(b), 50)], r, e, at, want, place)
	}
	for _, l := range [][]byte{nil, []byte("FBSC\x01\x00\x00"), []byte("FBSC\x01\x01\x00\x01\x02\x00\x00\x00"), []byte("FBSC\x01\x01"), []byte("FBCF"), make([]byte, 9), b} {
		untold(t, b, l, want, place)
	}
}

func TestBootOfBytesThatMayNotBe(t *testing.T) {
	config := small()
	config.Procs = []api.Proc{of(1, "recv r3 r4")}
	b := encoded(t, config)
	if len(b) != 47 {
		t.Fatalf("%d bytes", len(b))
	}
	for n := range b {
		barred(t, b[:n], api.ErrShort, n)
	}
	barred(t, nil, api.ErrShort, 0)
	for i := range 5 {
		barred(t, with(b, i, 9), api.ErrForm, i)
	}
	barred(t, with(b, 14, 0), api.ErrTwice, 14)
	barred(t, with(b, 5, 0), api.ErrArg, 5)
	barred(t, with(b, 5, 9), api.ErrMany, 5)
	barred(t, with(b, 24, 2), api.ErrRange, 24)
	barred(t, with(b, 25, 0), api.ErrRange, 25)
	barred(t, with(b, 31, 0), api.ErrArg, 31)
	barred(t, with(b, 32, 2), api.ErrRange, 32)
	barred(t, with(b, 35, 255), api.ErrOp, 35)
	barred(t, with(b, 36, 8), api.ErrReg, 36)
	barred(t, with(b, 46, 1), api.ErrUnused, 39)
	barred(t, append(bytes.Clone(b), 0), api.ErrRest, 47)
	barred(t, []byte("FBSC\x01\x00\x00"), api.ErrForm, 2)
	barred(t, make([]byte, api.MaxBytes), api.ErrForm, 0)
	barred(t, make([]byte, api.MaxBytes+1), api.ErrBytes, api.MaxBytes)
	barred(t, append(bytes.Clone(b), make([]byte, api.MaxBytes)...), api.ErrBytes, api.MaxBytes)
}

// Boot takes what conf.Decode takes, and nothing else.
func TestBootOfAnyBytes(t *testing.T) {
	for _, config := range configs() {
		b := encoded(t, config)
		for i := range b {
			for _, v := range []byte{0, 1, 2, 3, 8, 9, 31, 64, 128, 255, b[i] + 1, b[i] ^ 2} {
				c := with(b, i, v)
				want, e, at := conf.Decode(c)
				if e != api.OK {
					barred(t, c, e, at)
					continue
				}
				x := start(t, want)
				x.step(ticks(9))
				if r, e, at := Boot(c); r == nil || e != api.OK || at != 0 || stand(r.State()) != stand(plainly(t, want).m.State()) {
					t.Errorf("Boot of %x: %v, %d, %d", c, r, e, at)
				}
			}
		}
	}
}

// P17.1: StepTick.

func TestTicks(t *testing.T) {
	for _, config := range configs() {
		for n := 1; n < 70; n++ {
			x := start(t, config)
			x.told(ticks(n), answer(api.OK, int64(n), config.Table[(n-1)%len(config.Table)]))
			x.told(ticks(n), answer(api.OK, int64(2*n), config.Table[(2*n-1)%len(config.Table)]))
			x.told(ticks(1), answer(api.OK, int64(2*n+1), config.Table[2*n%len(config.Table)]))
		}
	}
}

// Ticks at once are the same as ticks one by one.
func TestTicksInParts(t *testing.T) {
	for _, config := range configs() {
		for _, parts := range [][]int{{60}, slices.Repeat([]int{1}, 60), {1, 59}, {59, 1}, {7, 13, 40}, slices.Repeat([]int{5}, 12)} {
			x := start(t, config)
			var last api.Answer
			for _, n := range parts {
				last = x.step(ticks(n))
			}
			whole := start(t, config)
			whole.told(ticks(60), last)
			if got, want := stand(x.r.State()), stand(whole.r.State()); got != want {
				t.Errorf("%v: %s, not %s", parts, got, want)
			}
		}
	}
}

func TestTicksThatAreNone(t *testing.T) {
	for _, done := range []int{0, 1, 3, 65536} {
		x := start(t, small())
		if done > 0 {
			x.step(ticks(done))
		}
		for _, n := range append([]int{0}, wild...) {
			if n < 1 {
				x.refused(ticks(n), api.ErrArg)
			}
		}
	}
}

// mores are numbers of ticks that are more than are left.
func mores(left int) []int {
	l := []int{left + 1, left + 2, left + 1<<32, left + 1<<32 + 1, left + 65536}
	for _, n := range wild {
		if n > left {
			l = append(l, n)
		}
	}
	return l
}

func TestAsManyTicksAsThereMayBe(t *testing.T) {
	for _, config := range []api.Config{small(), one(), three()} {
		for _, done := range []int{0, 1, 2, 3, 255, 256, 1000, 32768, 65535, 65536} {
			x := start(t, config)
			if done > 0 {
				x.step(ticks(done))
			}
			left := 65536 - done
			for _, n := range mores(left) {
				x.refused(ticks(n), api.ErrMany)
			}
			if left > 0 {
				x.told(ticks(left), answer(api.OK, 65536, config.Table[65535%len(config.Table)]))
			}
			for _, n := range append(mores(0), 1, 2, 65535, 65536) {
				x.refused(ticks(n), api.ErrMany)
			}
			x.step(inject(0, 4))
			x.told(inject(99, 4), answer(api.ErrAbsent, 65536, config.Table[65535%len(config.Table)]))
			x.step(kill(0))
			x.told(kill(0), answer(api.ErrDead, 65536, config.Table[65535%len(config.Table)]))
		}
	}
}

func TestEachTickUpToTheLast(t *testing.T) {
	r, _, _ := Boot(encoded(t, three()))
	table := three().Table
	for n := range int64(65536) {
		if got, want := r.Do(ticks(1)), answer(api.OK, n+1, table[n%int64(len(table))]); got != want {
			t.Fatalf("the tick %d: %+v, not %+v", n, got, want)
		}
	}
	if got := r.Do(ticks(1)); got != answer(api.ErrMany, 65536, 0) {
		t.Errorf("one more: %+v", got)
	}
	if s := r.State(); s.Tick != 65536 {
		t.Errorf("State: %d ticks", s.Tick)
	}
}

// What other steps do, and ticks that are refused, takes no tick away.
func TestOtherStepsTakeNoTick(t *testing.T) {
	x := start(t, one())
	for i := range 300 {
		x.step(inject(i%2, int64(i)))
		x.step(ticks(0))
		x.step(ticks(65537))
		x.step(stepOf(4, 5, 6))
	}
	x.told(kill(0), answer(api.OK, 0, -1))
	x.told(ticks(65536), answer(api.OK, 65536, 0))
}

// P17.1: StepInject.

func TestInject(t *testing.T) {
	x := start(t, small())
	x.told(inject(1, 9), answer(api.OK, 0, -1))
	x.told(inject(1, 8), answer(api.ErrFull, 0, -1))
	x.told(inject(0, -7), answer(api.OK, 0, -1))
	x.told(inject(2, 8), answer(api.ErrAbsent, 0, -1))
	s := x.r.State()
	if l := s.Procs[1].Lanes[2]; !slices.Equal(l.Values, []int64{9}) || l.Dropped != 1 {
		t.Errorf("the lane of the process 1: %+v", l)
	}
	if l := s.Procs[0].Lanes[2]; !slices.Equal(l.Values, []int64{-7}) || l.Dropped != 0 {
		t.Errorf("the lane of the process 0: %+v", l)
	}
	x.told(ticks(3), answer(api.OK, 3, 0))
	x.told(inject(0, 1), answer(api.ErrDead, 3, 0))
	x.told(inject(1, 1), answer(api.OK, 3, 0))
	x.told(kill(1), answer(api.OK, 3, 0))
	x.told(inject(1, 1), answer(api.ErrDead, 3, 0))
	for _, p := range wild {
		x.refused(inject(p, 1), api.ErrAbsent)
	}
}

func TestEachValueIsInjected(t *testing.T) {
	for _, v := range values {
		x := start(t, one())
		x.told(inject(0, v), answer(api.OK, 0, -1))
		x.told(ticks(1), answer(api.OK, 1, 0))
		want := []api.Entry{{Tick: 0, Proc: 0, Value: v}}
		if got := x.r.State().Parts[0].Log; !slices.Equal(got, want) {
			t.Errorf("%d: the log: %v", v, got)
		}
	}
}

func TestEachProcessIsInjectedIntoAndKilled(t *testing.T) {
	config := greatest()
	x := start(t, config)
	for p := range api.MaxProcs {
		x.told(inject(p, int64(p)), answer(api.OK, 0, -1))
		x.told(kill(p), answer(api.OK, 0, -1))
		for q, s := range x.r.State().Procs {
			if (s.State == api.Killed) != (q <= p) || len(s.Lanes[api.MaxParts].Values) != min(1, max(0, p+1-q)) {
				t.Fatalf("behind %d: the process %d: %+v", p, q, s)
			}
		}
	}
	x.refused(inject(api.MaxProcs, 1), api.ErrAbsent)
	x.refused(kill(api.MaxProcs), api.ErrAbsent)
}

// P17.1: StepKill.

func TestKill(t *testing.T) {
	x := start(t, three())
	x.told(ticks(7), answer(api.OK, 7, 1))
	x.told(kill(2), answer(api.OK, 7, 1))
	x.refused(kill(2), api.ErrDead)
	x.refused(kill(4), api.ErrAbsent)
	for _, p := range wild {
		x.refused(kill(p), api.ErrAbsent)
	}
	for p, s := range x.r.State().Procs {
		if (s.State == api.Killed) != (p == 2) {
			t.Errorf("the process %d: %+v", p, s)
		}
	}
	x = start(t, small())
	x.told(ticks(6), answer(api.OK, 6, 1))
	x.refused(kill(0), api.ErrDead)
	x.refused(kill(1), api.ErrDead)
}

// P17.1: steps of no kind.

func TestKindsThatAreNone(t *testing.T) {
	x := start(t, three())
	for range 3 {
		for k := -300; k <= 300; k++ {
			if k < 1 || k > 3 {
				x.refused(stepOf(k, 1, 1), api.ErrArg)
			}
		}
		for _, k := range noKinds {
			for _, n := range append([]int{0, 1, 2, 65536}, wild...) {
				x.refused(stepOf(k, n, int64(n)), api.ErrArg)
			}
		}
		x.step(ticks(4))
	}
}

// P17.1: fields that a kind doesn't name.

func TestFieldsThatAreNotLookedAt(t *testing.T) {
	for _, config := range configs() {
		x, y := start(t, config), start(t, config)
		for _, n := range append([]int{1, 2, 3, 0}, wild...) {
			for _, v := range values {
				for _, k := range []int{api.StepTick, api.StepKill} {
					x.told(stepOf(k, n, v), y.step(stepOf(k, n, 0)))
				}
				for _, k := range []int{api.StepNone, 4} {
					x.told(stepOf(k, n, v), y.step(stepOf(k, 0, 0)))
				}
			}
		}
		if got, want := stand(x.r.State()), stand(y.r.State()); got != want {
			t.Errorf("State: %s, not %s", got, want)
		}
	}
}

// P17.1: Tick and Owner, whatever E is.

func TestAheadOfTheFirstTick(t *testing.T) {
	for _, config := range configs() {
		x := start(t, config)
		for _, s := range []api.Step{inject(0, 1), inject(0, 1), inject(0, 1), inject(99, 1), kill(0), kill(0), kill(-1), inject(0, 1), ticks(0), ticks(-1), ticks(65537), stepOf(0, 1, 1), stepOf(4, 1, 1)} {
			if got := x.step(s); got.Tick != 0 || got.Owner != -1 {
				t.Errorf("Do(%+v): %+v", s, got)
			}
		}
		x.told(ticks(1), answer(api.OK, 1, config.Table[0]))
	}
}

func TestTickAndOwnerBesideEachError(t *testing.T) {
	for _, config := range configs() {
		seen := map[api.Errno]bool{}
		x := start(t, config)
		for n := 1; n < 30; n++ {
			x.step(ticks(1))
			for _, s := range []api.Step{inject(0, 1), inject(0, 1), inject(0, 1), inject(0, 1), inject(99, 1), ticks(0), ticks(65536), stepOf(0, 1, 1), kill(n - 28), kill(n - 28), inject(n-28, 1)} {
				got := x.step(s)
				seen[got.E] = true
				if got.Tick != int64(n) || got.Owner != config.Table[(n-1)%len(config.Table)] {
					t.Errorf("behind %d ticks: Do(%+v): %+v", n, s, got)
				}
			}
		}
		for _, e := range []api.Errno{api.OK, api.ErrArg, api.ErrMany, api.ErrAbsent, api.ErrDead, api.ErrFull} {
			if !seen[e] {
				t.Errorf("the error %d never came", e)
			}
		}
	}
}

// P17.1: State.

func TestStateBehindEachStep(t *testing.T) {
	x := start(t, small())
	first := x.r.State()
	x.told(ticks(1), answer(api.OK, 1, 0))
	if s := x.r.State(); s.Tick != 1 || s.Procs[0].PC != 2 || s.Procs[0].Regs != [8]int64{1, 5} || s.Procs[1].PC != 0 {
		t.Errorf("behind one tick: %+v", s)
	}
	x.told(ticks(1), answer(api.OK, 2, 1))
	if s := x.r.State(); s.Tick != 2 || s.Procs[1].State != api.WaitRecv {
		t.Errorf("behind two ticks: %+v", s)
	}
	x.told(ticks(1), answer(api.OK, 3, 0))
	if s := x.r.State(); s.Procs[0].State != api.Exited || s.Procs[1].State != api.Ready || !slices.Equal(s.Procs[1].Lanes[0].Values, []int64{5}) {
		t.Errorf("behind three ticks: %+v", s)
	}
	x.told(inject(1, 6), answer(api.OK, 3, 0))
	if s := x.r.State(); s.Tick != 3 || !slices.Equal(s.Procs[1].Lanes[2].Values, []int64{6}) {
		t.Errorf("behind what was injected: %+v", s)
	}
	x.told(ticks(1), answer(api.OK, 4, 1))
	if s := x.r.State(); !slices.Equal(s.Parts[1].Log, []api.Entry{{Tick: 3, Proc: 1, Value: 5}}) {
		t.Errorf("behind four ticks: %+v", s)
	}
	x.told(kill(1), answer(api.OK, 4, 1))
	if s := x.r.State(); s.Tick != 4 || s.Procs[1].State != api.Killed || s.Procs[0].State != api.Exited {
		t.Errorf("behind the kill: %+v", s)
	}
	if stand(first) != stand(start(t, small()).r.State()) {
		t.Errorf("the first State: %+v", first)
	}
}

// State changes nothing, so often as it is asked.
func TestStateIsAskedOnly(t *testing.T) {
	for _, config := range configs() {
		x, y := start(t, config), start(t, config)
		c := chance(2)
		for range 60 {
			s := c.step()
			for range 3 {
				x.r.State()
			}
			if got, want := x.r.Do(s), y.r.Do(s); got != want {
				t.Fatalf("Do(%+v): %+v, not %+v", s, got, want)
			}
		}
		if got, want := stand(x.r.State()), stand(y.r.State()); got != want {
			t.Errorf("State: %s, not %s", got, want)
		}
	}
}

// P17.1: any steps of any configs.

func TestAnySteps(t *testing.T) {
	c := chance(3)
	seen := map[api.Errno]int{}
	for range 1000 {
		x := start(t, c.any())
		for range 50 {
			seen[x.step(c.wild()).E]++
		}
	}
	for _, e := range []api.Errno{api.OK, api.ErrArg, api.ErrMany, api.ErrAbsent, api.ErrDead, api.ErrFull} {
		if seen[e] < 100 {
			t.Errorf("the error %d came %d times", e, seen[e])
		}
	}
}

func TestStepsOfTheGreatestMachine(t *testing.T) {
	x := start(t, greatest())
	c := chance(4)
	for range 40 {
		x.step(c.wild())
	}
}
