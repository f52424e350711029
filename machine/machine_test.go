package machine

import (
	"math"
	"slices"
	"testing"

	"firebreak/api"
)

// small is the chapter's example, with these labels.
func small(labels ...uint64) api.Config {
	return api.Config{
		Labels: labels, Table: []int{0, 1}, Fuel: 2, Lane: 1, Locks: 1, Log: 4,
		Procs: []api.Proc{of(0, "set r0 1", "set r1 5", "send r2 r0 r1", "exit"), of(1, "recv r3 r4", "out r3", "exit")},
	}
}

// who is one who waits with a message.
func who(p int, v int64) api.Waiter { return api.Waiter{Proc: p, Value: v} }

// entry is a log's.
func entry(tick int64, p int, v int64) api.Entry { return api.Entry{Tick: tick, Proc: p, Value: v} }

// at is how a machine stands at first, with something changed.
func at(c api.Config, change func(s *api.State)) api.State {
	s := fresh(c).s
	change(&s)
	return s
}

// P15.1: the errors, limits and states that come here.

func TestErrorsLimitsAndStates(t *testing.T) {
	for _, x := range []struct{ got, want int }{
		{int(api.OK), 0}, {int(api.ErrForm), 4}, {int(api.ErrAbsent), 17}, {int(api.ErrDead), 18}, {int(api.ErrFull), 19},
		{api.MaxCount, 65535}, {api.MaxTimer, 1 << 40}, {api.MaxFuel, 256}, {api.MaxLane, 64}, {api.MaxProcs, 32}, {api.MaxParts, 8},
		{api.Ready, 0}, {api.WaitRecv, 1}, {api.WaitSend, 2}, {api.WaitLock, 3}, {api.Asleep, 4}, {api.Exited, 5}, {api.Killed, 6},
	} {
		if x.got != x.want {
			t.Errorf("%d, not %d", x.got, x.want)
		}
	}
}

// P15.1: the chapter's examples.

func TestExampleOfAMessage(t *testing.T) {
	x := start(t, small(0, 1))
	x.ticks(1)
	x.is(0, api.Ready, 2)
	x.ticks(1)
	x.is(1, api.WaitRecv, 0)
	x.ticks(1)
	x.lane(1, 0, 0, 0, 5)
	x.is(1, api.Ready, 0)
	x.reg(0, 2, 0)
	x.is(0, api.Exited, 3)
	x.ticks(1)
	x.reg(1, 3, 5)
	x.reg(1, 4, 0)
	x.log(1, 0, entry(3, 1, 5))
	before := x.m.State()
	x.ticks(1)
	before.Tick++
	if !same(before, x.m.State()) {
		t.Errorf("a slot of one that has ended: %+v", x.m.State())
	}
	x.ticks(1)
	x.is(1, api.Exited, 2)
}

func TestExampleOfOwners(t *testing.T) {
	m, _ := New(small(0, 1))
	for i := range 20 {
		if got := m.Tick(); got != i%2 {
			t.Errorf("Tick number %d: %d", i, got)
		}
	}
}

func TestExampleOfASendThatMayNotBe(t *testing.T) {
	if m, e := New(small(2, 1)); m != nil || e != api.ErrOrder {
		t.Errorf("New of labels that fall: %v, %d", m, e)
	}
	x := start(t, small(1, 2))
	x.ticks(4)
	x.reg(0, 2, 0)
	x.lane(1, 0, 0, 0)
	x.is(1, api.WaitRecv, 0)
	if got := x.m.State().Parts[0].Forbidden; got != 1 {
		t.Errorf("Forbidden: %d", got)
	}
}

func TestExampleOfInjectAndKill(t *testing.T) {
	x := start(t, small(0, 1))
	x.inject(1, 9, api.OK)
	x.lane(1, 2, 0, 0, 9)
	x.inject(1, 8, api.ErrFull)
	x.lane(1, 2, 0, 1, 9)
	x.inject(5, 1, api.ErrAbsent)
	x.kill(1, api.OK)
	x.kill(1, api.ErrDead)
	x.inject(1, 1, api.ErrDead)
	x.lane(1, 2, 0, 1, 9)
}

// P15.1: the examples of the whole.

func TestMessagesUpward(t *testing.T) {
	x := start(t, three(of(0, "set r0 1", "set r1 5", "send r2 r0 r1", "add r1 r1 r0", "jump 2"), of(1, "exit")))
	x.ticks(3 * 3)
	x.lane(1, 0, 0, 1)
	x.is(1, api.Exited, 0)

	x = start(t, three(of(0, "set r0 1", "set r1 5", "set r2 -1", "send r2 r0 r1", "add r1 r1 r0", "jump 2"), of(2, "jump 0")))
	x.ticks(3*4 - 2)
	x.reg(0, 2, 0)
	x.lane(1, 0, 0, 0, 5)
	for dropped := range 5 {
		x.lane(1, 0, 0, dropped, 5)
		x.ticks(3 * 3)
		x.reg(0, 2, -1)
		x.ticks(3)
		x.reg(0, 2, 0)
	}
	x.kill(1, api.OK)
	x.ticks(3 * 4)
	x.reg(0, 2, 0)
	x.lane(1, 0, 0, 6, 5)
}

func TestMessagesDownwardAndAside(t *testing.T) {
	x := start(t, three(of(1, "set r0 1", "send r0 r0 r0", "set r0 2", "send r0 r0 r0"), of(2, "recv r0 r1"), of(0, "recv r0 r1")))
	for i, want := range []int{0, 1, 1, 2, 2} {
		x.ticks(3)
		if got := x.m.State().Parts; got[1].Forbidden != want || got[0].Forbidden != 0 || got[2].Forbidden != 0 {
			t.Fatalf("behind %d: %+v", i, got)
		}
		x.lane(1, 1, 0, 0)
		x.lane(2, 1, 0, 0)
	}
	x.reg(0, 0, 0)
	x.is(1, api.WaitRecv, 0)
	x.is(2, api.WaitRecv, 0)
	x.is(0, api.Exited, 4)
}

func TestSlotsOfTheTable(t *testing.T) {
	c := changed(three(of(0, "jump 0"), of(1, "exit"), of(2, "recv r0 r0")), func(c *api.Config) { c.Table = []int{0, 1, 0, 2} })
	for kill := range 4 {
		x := start(t, c)
		x.ticks(5)
		if kill < 3 {
			x.m.Kill(kill)
			x.p.Kill(kill)
		}
		for i := range 40 {
			if got, want := x.m.Tick(), []int{0, 1, 0, 2}[(i+5)%4]; got != want {
				t.Errorf("Tick number %d: %d, not %d", i+5, got, want)
			}
		}
	}
}

// P15.1: New.

func TestNewStandsAsAtFirst(t *testing.T) {
	c := chance(1)
	for range 300 {
		start(t, c.config())
	}
	x := start(t, three(of(0, "exit"), of(2), of(2, "lock 1")))
	want := api.State{
		Parts: []api.Part{
			{Owners: []int{-1, -1}, Queues: [][]int{{}, {}}},
			{Owners: []int{-1, -1}, Queues: [][]int{{}, {}}},
			{Owners: []int{-1, -1}, Queues: [][]int{{}, {}}},
		},
		Procs: []api.Process{{Lanes: make([]api.Lane, 4)}, {Lanes: make([]api.Lane, 4)}, {Lanes: make([]api.Lane, 4)}},
	}
	if got := x.m.State(); !same(got, want) {
		t.Errorf("State: %+v", got)
	}
}

// refusedConfigs are such as may not be, each with its error.
func refusedConfigs() []struct {
	c api.Config
	e api.Errno
} {
	var list []struct {
		c api.Config
		e api.Errno
	}
	add := func(e api.Errno, change func(c *api.Config)) {
		list = append(list, struct {
			c api.Config
			e api.Errno
		}{changed(small(0, 1), change), e})
	}
	add(api.ErrArg, func(c *api.Config) { c.Labels = nil })
	add(api.ErrMany, func(c *api.Config) { c.Labels = []uint64{0, 1, 2, 3, 4, 5, 6, 7, 8} })
	add(api.ErrTwice, func(c *api.Config) { c.Labels[1] = 0 })
	add(api.ErrOrder, func(c *api.Config) { c.Labels = []uint64{2, 1} })
	add(api.ErrArg, func(c *api.Config) { c.Table = nil })
	add(api.ErrMany, func(c *api.Config) { c.Table = make([]int, 65) })
	add(api.ErrRange, func(c *api.Config) { c.Table[1] = 2 })
	add(api.ErrRange, func(c *api.Config) { c.Table[0] = -1 })
	add(api.ErrRange, func(c *api.Config) { c.Fuel = 0 })
	add(api.ErrRange, func(c *api.Config) { c.Fuel = 257 })
	add(api.ErrRange, func(c *api.Config) { c.Lane = 0 })
	add(api.ErrRange, func(c *api.Config) { c.Lane = 65 })
	add(api.ErrRange, func(c *api.Config) { c.Locks = -1 })
	add(api.ErrRange, func(c *api.Config) { c.Locks = 9 })
	add(api.ErrRange, func(c *api.Config) { c.Log = -1 })
	add(api.ErrRange, func(c *api.Config) { c.Log = 4097 })
	add(api.ErrArg, func(c *api.Config) { c.Procs = nil })
	add(api.ErrMany, func(c *api.Config) { c.Procs = make([]api.Proc, 33) })
	add(api.ErrRange, func(c *api.Config) { c.Procs[1].Part = 2 })
	add(api.ErrRange, func(c *api.Config) { c.Procs[1].Part = -1 })
	add(api.ErrMany, func(c *api.Config) { c.Procs[1].Code = make([]api.Ins, 257) })
	add(api.ErrOp, func(c *api.Config) { c.Procs[1].Code[1] = api.Ins{Op: api.Ops} })
	add(api.ErrReg, func(c *api.Config) { c.Procs[1].Code[1].A = 8 })
	add(api.ErrUnused, func(c *api.Config) { c.Procs[1].Code[1].B = 1 })
	add(api.ErrJump, func(c *api.Config) { c.Procs[1].Code[1] = api.Ins{Op: api.OpJump, Imm: 4} })
	add(api.ErrLock, func(c *api.Config) { c.Procs[1].Code[1] = api.Ins{Op: api.OpLock, Imm: 1} })
	return list
}

func TestConfigsThatMayNotBe(t *testing.T) {
	for i, x := range refusedConfigs() {
		if m, e := New(x.c); m != nil || e != x.e {
			t.Errorf("number %d: New: %v, %d, not %d", i, m, e, x.e)
		}
		for _, s := range []api.State{{}, fresh(small(0, 1)).s, {Tick: -1}} {
			if e := May(x.c, s); e != x.e {
				t.Errorf("number %d: May: %d, not %d", i, e, x.e)
			}
			if m, e := Lay(x.c, s); m != nil || e != x.e {
				t.Errorf("number %d: Lay: %v, %d, not %d", i, m, e, x.e)
			}
		}
	}
	if m, e := New(api.Config{}); m != nil || e != api.ErrArg {
		t.Errorf("New of nothing: %v, %d", m, e)
	}
}

// P15.1: Send.

func TestSendToNoProcess(t *testing.T) {
	for _, q := range append([]int{2, 3}, wild...) {
		c := three(api.Proc{Part: 1, Code: []api.Ins{{Op: api.OpSet, A: 1, Imm: int64(q)}, {Op: api.OpSend, A: 2, B: 1, C: 1}}}, of(0))
		x := start(t, c)
		x.ticks(6)
		x.reg(0, 2, 1)
		x.is(0, api.Ready, 2)
		if got := x.m.State().Parts[1].Forbidden; got != 0 {
			t.Errorf("a send to %d: Forbidden: %d", q, got)
		}
	}
}

func TestSendToTheLastProcess(t *testing.T) {
	c := one(of(0, "set r0 31", "send r0 r0 r0", "set r0 32", "send r0 r0 r0"))
	for len(c.Procs) < api.MaxProcs {
		c.Procs = append(c.Procs, of(0, "recv r0 r0"))
	}
	x := start(t, c)
	x.ticks(33 * 2)
	x.reg(31, 0, 0)
	x.lane(31, 0, 1, 0)
	x.ticks(3)
	x.reg(0, 0, 1)
}

func TestSendWithinToOneThatEnded(t *testing.T) {
	x := start(t, one(of(0, "set r0 1", "send r1 r0 r0"), of(0, "exit")))
	x.ticks(3)
	x.reg(0, 1, 2)
	x.is(0, api.Ready, 2)
	x.lane(1, 0, 0, 0)

	x = start(t, one(of(0, "set r0 1", "send r1 r0 r0"), of(0, "jump 0")))
	x.kill(1, api.OK)
	x.ticks(2)
	x.reg(0, 1, 2)
	x.lane(1, 0, 0, 0)
}

func TestSendUpToOneThatEndedIsDropped(t *testing.T) {
	x := start(t, three(of(0, "set r0 1", "set r1 9", "send r1 r0 r0"), of(1, "exit")))
	x.ticks(9)
	x.reg(0, 1, 0)
	x.lane(1, 0, 0, 1)
}

func TestSendToItself(t *testing.T) {
	x := start(t, one(of(0, "set r1 5", "send r2 r0 r1", "recv r3 r4", "send r2 r0 r1", "send r2 r0 r1"), of(0)))
	x.kill(1, api.OK)
	x.ticks(3)
	x.reg(0, 3, 5)
	x.reg(0, 4, 0)
	x.ticks(2)
	x.is(0, api.WaitSend, 4)
	x.waiters(0, 0, who(0, 5))
	x.ticks(2)
	x.is(0, api.WaitSend, 4)
	x.kill(0, api.OK)
	x.is(0, api.Killed, 4)
	x.reg(0, 2, 0)
	x.waiters(0, 0)
	x.lane(0, 0, 1, 0, 5)
}

func TestAFullLaneAndRoomAgain(t *testing.T) {
	sender := []string{"self r1", "set r2 9", "send r2 r0 r1", "jump 3"}
	x := start(t, changed(one(of(0, "jump 0"), of(0, sender...), of(0, sender...), of(0, sender...), of(0, sender...)), func(c *api.Config) { c.Lane = 2 }))
	x.ticks(5 * 3)
	x.lane(0, 0, 0, 0, 1, 2)
	x.waiters(0, 0, who(3, 3), who(4, 4))
	x.is(1, api.Ready, 3)
	x.is(3, api.WaitSend, 2)
	x.is(4, api.WaitSend, 2)
	x.reg(1, 2, 0)
	x.reg(3, 2, 9)
	s := x.m.State()

	// The receiver receives from now on.
	c := changed(x.p.c, func(c *api.Config) { c.Procs[0].Code[0] = api.Ins{Op: api.OpRecv, A: 5, B: 6} })
	s.Parts[0].Cursor = 0
	x = startAt(t, c, s)
	x.ticks(1)
	x.reg(0, 5, 1)
	x.reg(0, 6, 0)
	x.lane(0, 0, 1, 0, 2, 3)
	x.waiters(0, 0, who(4, 4))
	x.is(3, api.Ready, 3)
	x.reg(3, 2, 0)
	x.is(4, api.WaitSend, 2)
	x.ticks(3)
	x.is(0, api.Ready, 1)
}

func TestWaitersStandInTheirOrder(t *testing.T) {
	c := one(of(0, "sleep r0", "sleep r0", "sleep r0", "sleep r0", "recv r1 r2", "out r1", "recv r1 r2", "out r1", "recv r1 r2", "out r1", "recv r1 r2", "out r1"),
		of(0, "self r1", "self r1", "self r1", "send r2 r0 r1"), of(0, "self r1", "self r1", "send r2 r0 r1"),
		of(0, "self r1", "send r2 r0 r1"), of(0, "set r1 77", "send r2 r0 r1"))
	c.Fuel = 5
	x := start(t, c)
	x.ticks(4)
	x.lane(0, 0, 0, 0, 3)
	x.waiters(0, 0, who(4, 77), who(2, 2), who(1, 1))
	x.ticks(4)
	var got []int64
	for _, e := range x.m.State().Parts[0].Log {
		got = append(got, e.Value)
	}
	if !slices.Equal(got, []int64{3, 77, 2, 1}) {
		t.Errorf("they came in as %v", got)
	}
}

func TestAKilledWaiterWaitsNoMore(t *testing.T) {
	x := start(t, one(of(0, "sleep r7"), of(0, "send r2 r0 r1"), of(0, "send r2 r0 r1"), of(0, "send r2 r0 r1"), of(0, "send r2 r0 r1")))
	x.ticks(5)
	x.waiters(0, 0, who(2, 0), who(3, 0), who(4, 0))
	x.kill(3, api.OK)
	x.waiters(0, 0, who(2, 0), who(4, 0))
	x.is(3, api.Killed, 0)
	x.kill(2, api.OK)
	x.waiters(0, 0, who(4, 0))
	x.kill(0, api.OK)
	x.waiters(0, 0)
	x.is(4, api.Ready, 1)
	x.reg(4, 2, 2)
	x.reg(3, 2, 0)
	x.lane(0, 0, 0, 0, 0)
}

func TestTheEndOfAReceiver(t *testing.T) {
	sender := []string{"set r1 4", "send r2 r0 r1", "out r2"}
	for _, ends := range []bool{true, false} {
		x := start(t, changed(one(of(0, "sleep r0", "exit"), of(0, sender...), of(0, sender...), of(0, sender...)), func(c *api.Config) { c.Fuel = 7 }))
		x.ticks(1)
		x.waiters(0, 0, who(2, 4), who(3, 4))
		if ends {
			// The sleeper wakes, and exits; those who waited go on in the same slot.
			x.ticks(1)
			x.is(0, api.Exited, 1)
			x.log(0, 0, entry(1, 1, 0), entry(1, 2, 2), entry(1, 3, 2))
			continue
		}
		x.kill(0, api.OK)
		x.is(0, api.Killed, 0)
		x.is(1, api.Ready, 2)
		x.is(2, api.Ready, 2)
		x.is(3, api.Ready, 2)
		x.reg(1, 2, 0)
		x.reg(2, 2, 2)
		x.reg(3, 2, 2)
		x.lane(0, 0, 0, 0, 4)
	}
}

func TestASendWakesWhoReceives(t *testing.T) {
	x := start(t, one(of(0, "recv r1 r2"), of(0, "set r3 6", "send r2 r0 r3")))
	x.ticks(2)
	x.is(0, api.WaitRecv, 0)
	x.ticks(1)
	x.is(0, api.Ready, 0)
	x.lane(0, 0, 0, 0, 6)
	x.ticks(1)
	x.reg(0, 1, 6)
	x.reg(0, 2, 0)
	x.is(0, api.Ready, 1)
}

// A message wakes who waits to receive, and nobody else.
func TestAMessageWakesNobodyElse(t *testing.T) {
	x := start(t, one(of(0, "set r0 9", "sleep r0"), of(0, "lock 0", "jump 1"), of(0, "lock 0"), of(0, "set r0 1", "send r1 r0 r0", "send r1 r0 r0")))
	x.ticks(11)
	for p, state := range []int{api.Asleep, api.Ready, api.WaitLock, api.WaitSend} {
		pc := x.m.State().Procs[p].PC
		x.is(p, state, pc)
		x.inject(p, 3, api.OK)
		x.is(p, state, pc)
		x.lane(p, 1, 0, 0, 3)
	}
}

// P15.1: Recv and Try.

func TestLanesAreLookedAtFromTheCursor(t *testing.T) {
	c := three(of(1, "recv r1 r2", "out r1", "out r2", "jump 0"))
	c.Fuel, c.Table, c.Lane, c.Log = 3, []int{1}, 3, 64
	x := startAt(t, c, at(c, func(s *api.State) {
		s.Procs[0].Lanes[0].Values = []int64{10, 11, 12}
		s.Procs[0].Lanes[1].Values = []int64{20}
		s.Procs[0].Lanes[3].Values = []int64{30, 31}
		s.Procs[0].Cursor = 2
	}))
	for _, want := range []struct{ v, lane, cursor int }{{30, 3, 0}, {10, 0, 1}, {20, 1, 2}, {31, 3, 0}, {11, 0, 1}, {12, 0, 1}} {
		x.ticks(1)
		x.reg(0, 1, int64(want.v))
		x.reg(0, 2, int64(want.lane))
		if got := x.m.State().Procs[0].Cursor; got != want.cursor {
			t.Errorf("the cursor: %d, not %d", got, want.cursor)
		}
		x.p.s.Procs[0].PC, x.p.s.Procs[0].State = 0, api.Ready
		x = startAt(t, c, x.p.s)
	}
	x.lane(0, 0, 3, 0)
	x.lane(0, 1, 1, 0)
	x.lane(0, 2, 0, 0)
	x.lane(0, 3, 2, 0)
	x.ticks(1)
	x.is(0, api.WaitRecv, 0)
	if got := x.m.State().Procs[0].Cursor; got != 1 {
		t.Errorf("the cursor where nothing is: %d", got)
	}
}

func TestTryWhereNothingIs(t *testing.T) {
	x := start(t, one(of(0, "set r1 5", "set r2 5", "try r1 r2", "try r3 r3")))
	x.ticks(3)
	x.reg(0, 1, 0)
	x.reg(0, 2, -1)
	x.is(0, api.Ready, 3)
	x.ticks(1)
	x.reg(0, 3, -1)
	x.inject(0, 8, api.OK)
}

func TestTryTakesAMessage(t *testing.T) {
	x := start(t, one(of(0, "try r1 r2", "recv r3 r3")))
	x.inject(0, 8, api.OK)
	x.ticks(1)
	x.reg(0, 1, 8)
	x.reg(0, 2, 1)
	x.lane(0, 1, 1, 0)
	x.inject(0, 8, api.OK)
	x.ticks(1)
	x.reg(0, 3, 1)
}

func TestFiredIsTakenBehindAllMessages(t *testing.T) {
	for _, op := range []string{"recv", "try"} {
		c := one(of(0, op+" r1 r2"))
		x := startAt(t, c, at(c, func(s *api.State) { s.Procs[0].Fired, s.Procs[0].Lanes[1].Values = true, []int64{6} }))
		x.ticks(1)
		x.reg(0, 1, 6)
		x.reg(0, 2, 1)
		x.timers(0, 0, 0, true)

		x = startAt(t, c, at(c, func(s *api.State) { s.Procs[0].Fired, s.Procs[0].Regs[1] = true, 6 }))
		x.ticks(1)
		x.reg(0, 1, 0)
		x.reg(0, 2, -2)
		x.timers(0, 0, 0, false)
		x.is(0, api.Ready, 1)
	}
}

func TestTakenLetsTheFirstWaiterIn(t *testing.T) {
	for _, op := range []string{"recv r1 r2", "try r1 r2"} {
		x := start(t, one(of(0, "jump 1", "jump 2", op), of(0, "self r1", "set r2 9", "send r2 r0 r1"), of(0, "self r1", "set r2 9", "send r2 r0 r1")))
		x.ticks(9)
		x.lane(0, 0, 0, 0, 1)
		x.waiters(0, 0, who(2, 2))
		s := x.m.State()
		s.Procs[0].PC, s.Procs[0].State = 2, api.Ready
		c := x.p.c
		s.Parts[0].Cursor = 0
		x = startAt(t, c, s)
		x.is(2, api.WaitSend, 2)
		x.reg(2, 2, 9)
		x.ticks(1)
		x.lane(0, 0, 1, 0, 2)
		x.is(2, api.Ready, 3)
		x.reg(2, 2, 0)
	}
}

// P15.1: timers and sleeps.

func TestTimers(t *testing.T) {
	for _, x := range []struct{ ticks, due int64 }{
		{1, 3}, {2, 4}, {100, 102}, {1<<40 - 1, 1<<40 + 1}, {1 << 40, 1<<40 + 2}, {1<<40 + 1, 1<<40 + 2}, {1<<62 + 5, 1<<40 + 2}, {math.MaxInt64, 1<<40 + 2},
		{0, 0}, {-1, 0}, {-1 << 40, 0}, {math.MinInt64, 0},
	} {
		m := start(t, one(api.Proc{Code: []api.Ins{{Op: api.OpSet, A: 1, Imm: 50}, {Op: api.OpTimer, A: 1}, {Op: api.OpTimer, A: 2}}}))
		m.ticks(2)
		m.timers(0, 51, 0, false)
		s := m.m.State()
		s.Procs[0].Regs[2], s.Procs[0].Fired = x.ticks, true
		m = startAt(t, m.p.c, s)
		m.ticks(1)
		m.timers(0, x.due, 0, false)
		m.is(0, api.Ready, 3)
	}
}

func TestATimerFires(t *testing.T) {
	x := start(t, one(of(0, "set r1 3", "timer r1", "recv r2 r3", "try r4 r5")))
	x.ticks(2)
	x.timers(0, 4, 0, false)
	x.ticks(2)
	x.is(0, api.WaitRecv, 2)
	x.timers(0, 4, 0, false)
	x.ticks(1)
	x.timers(0, 0, 0, false)
	x.reg(0, 2, 0)
	x.reg(0, 3, -2)
	x.is(0, api.Ready, 3)
	x.ticks(1)
	x.reg(0, 5, -1)
}

func TestATimerWakesNobodyElse(t *testing.T) {
	c := one(of(0, "set r0 9", "sleep r0"), of(0, "lock 0", "jump 1"), of(0, "lock 0"), of(0, "set r0 1", "send r1 r0 r0", "send r1 r0 r0"), of(0))
	x := start(t, c)
	x.ticks(12)
	s := x.m.State()
	for p := range 4 {
		s.Procs[p].Timer = s.Tick
	}
	s.Parts[0].Cursor = 1
	x = startAt(t, c, s)
	x.is(0, api.Asleep, 1)
	x.ticks(1)
	for p, state := range []int{api.Asleep, api.Ready, api.WaitLock, api.WaitSend} {
		x.is(p, state, x.p.s.Procs[p].PC)
		if s := x.m.State().Procs[p]; s.State != state || s.Timer != 0 || !s.Fired {
			t.Errorf("process %d: %+v", p, s)
		}
	}
	x.timers(4, 0, 0, false)
}

func TestATimerWaitsForTheSlot(t *testing.T) {
	c := three(of(0, "set r1 1", "timer r1", "recv r2 r3"), of(1, "set r1 1", "timer r1", "recv r2 r3"))
	x := start(t, c)
	x.ticks(6)
	x.timers(0, 4, 0, false)
	x.timers(1, 5, 0, false)
	x.ticks(1)
	x.timers(0, 0, 0, false)
	x.reg(0, 3, -2)
	x.timers(1, 5, 0, false)
	x.ticks(1)
	x.reg(1, 3, -2)

	// Of a partition without a slot nothing ever fires.
	c.Table = []int{2}
	s := x.m.State()
	s.Procs[0].Timer = 3
	x = startAt(t, c, s)
	x.ticks(50)
	x.timers(0, 3, 0, false)
}

// With a Table of which its partition has each tick, a timer is due at that tick and not ahead of it.
func TestATimerFiresInTime(t *testing.T) {
	for n := int64(1); n < 6; n++ {
		x := start(t, one(api.Proc{Code: []api.Ins{{Op: api.OpSet, Imm: n}, {Op: api.OpTimer}, {Op: api.OpJump, Imm: 2}}}))
		x.ticks(2)
		for i := range n {
			x.timers(0, 1+n, 0, false)
			if i+1 < n {
				x.ticks(1)
			}
		}
		x.ticks(1)
		x.timers(0, 0, 0, true)
	}
}

func TestASleep(t *testing.T) {
	for _, x := range []struct{ ticks, wake int64 }{
		{1, 2}, {0, 2}, {-1, 2}, {math.MinInt64, 2}, {2, 3}, {7, 8}, {1<<40 - 1, 1 << 40}, {1 << 40, 1<<40 + 1}, {1<<40 + 1, 1<<40 + 1}, {math.MaxInt64, 1<<40 + 1},
	} {
		c := one(api.Proc{Code: []api.Ins{{Op: api.OpSet, A: 3, Imm: x.ticks}, {Op: api.OpSleep, A: 3}, {Op: api.OpNow, A: 4}}})
		m := start(t, c)
		m.ticks(2)
		m.is(0, api.Asleep, 1)
		m.timers(0, 0, x.wake, false)
		if x.wake < 100 {
			m.ticks(int(x.wake) - 2)
			m.is(0, api.Asleep, 1)
		} else {
			s := m.m.State()
			s.Tick = x.wake - 1
			m = startAt(t, c, s)
			m.ticks(1)
			m.is(0, api.Asleep, 1)
		}
		m.ticks(1)
		m.is(0, api.Ready, 3)
		m.timers(0, 0, 0, false)
		m.reg(0, 4, x.wake)
	}
}

func TestASleepAndATimer(t *testing.T) {
	x := start(t, one(of(0, "set r1 4", "timer r1", "set r1 2", "sleep r1", "recv r2 r3")))
	x.ticks(4)
	x.timers(0, 5, 5, false)
	x.ticks(1)
	x.is(0, api.Asleep, 3)
	x.ticks(1)
	x.timers(0, 0, 0, false)
	x.is(0, api.Ready, 5)
	x.reg(0, 3, -2)
}

// Many that are due at one time, of many processes, all wake.
func TestManyAreDue(t *testing.T) {
	c := chance(8)
	for range 200 {
		x := one()
		for range 1 + c.next(32) {
			x.Procs = append(x.Procs, of(0, "sleep r0", "recv r0 r1"))
		}
		x.Fuel = 1
		s := at(x, func(s *api.State) {
			s.Tick = 10
			for p := range s.Procs {
				s.Procs[p].Timer = int64(c.next(14))
				switch c.next(3) {
				case 0:
					s.Procs[p].State, s.Procs[p].Wake = api.Asleep, int64(1+c.next(13))
				case 1:
					s.Procs[p].State, s.Procs[p].PC = api.WaitRecv, 1
				}
			}
		})
		startAt(t, x, s).ticks(6)
	}
}

// P15.1: locks.

func TestALockIsGivenOn(t *testing.T) {
	x := start(t, one(of(0, "lock 0", "out r0", "unlock 0", "jump 3"), of(0, "lock 0", "out r0", "unlock 0", "jump 3"), of(0, "lock 0", "unlock 0")))
	x.ticks(1)
	x.lock(0, 0, 0)
	x.ticks(2)
	x.lock(0, 0, 0, 1, 2)
	x.is(1, api.WaitLock, 0)
	x.is(2, api.WaitLock, 0)
	x.ticks(1)
	x.lock(0, 0, 0, 1, 2)
	x.ticks(1)
	x.lock(0, 0, 1, 2)
	x.is(0, api.Ready, 3)
	x.is(1, api.Ready, 1)
	x.is(2, api.WaitLock, 0)
	x.ticks(3)
	x.lock(0, 0, 2)
	x.is(2, api.Ready, 1)
	x.ticks(1)
	x.lock(0, 0, -1)
	x.is(2, api.Ready, 2)
}

func TestALockThatItHolds(t *testing.T) {
	x := start(t, one(of(0, "lock 1", "lock 1", "unlock 0", "unlock 1", "unlock 1")))
	x.ticks(2)
	x.is(0, api.Ready, 2)
	x.lock(0, 1, 0)
	x.ticks(1)
	x.lock(0, 1, 0)
	x.is(0, api.Ready, 3)
	x.ticks(1)
	x.lock(0, 1, -1)
	x.ticks(1)
	x.is(0, api.Ready, 5)
}

func TestALockThatAnotherOneHolds(t *testing.T) {
	for _, busy := range [][]string{{"lock 0", "sleep r0"}, {"lock 0", "recv r1 r2"}, {"lock 0", "jump 1"}} {
		x := start(t, one(of(0, busy...), of(0, "jump 1", "jump 2", "unlock 0", "jump 3"), of(0, "lock 1", "lock 0")))
		s := x.m.State()
		s.Procs[0].Regs[0] = 40
		x = startAt(t, x.p.c, s)
		x.ticks(8)
		x.lock(0, 0, 0, 2)
		x.is(2, api.WaitLock, 1)
		x.is(1, api.Ready, 3)
		was := x.m.State().Procs[0]
		x.ticks(1)
		if got := x.m.State().Procs[0]; got.State != was.State {
			t.Errorf("%v: %d, not %d", busy, got.State, was.State)
		}
	}
}

func TestLocksAreEachPartitionsOwn(t *testing.T) {
	x := start(t, three(of(0, "lock 0"), of(1, "lock 0"), of(2, "lock 0")))
	x.ticks(3)
	for p := range 3 {
		x.is(p, api.Ready, 1)
		x.lock(p, 0, p)
	}
	x.ticks(3)
	for p := range 3 {
		x.is(p, api.Exited, 1)
		x.lock(p, 0, -1)
	}
}

func TestTheEndOfAHolder(t *testing.T) {
	for _, kill := range []bool{true, false} {
		x := start(t, one(of(0, "lock 0", "lock 1", "exit"), of(0, "lock 1"), of(0, "jump 1", "lock 0"), of(0, "jump 1", "lock 1")))
		s := x.m.State()
		s.Procs[0].PC, s.Procs[1].PC, s.Procs[2].PC, s.Procs[3].PC = 2, 0, 1, 1
		s.Procs[1].State, s.Procs[2].State, s.Procs[3].State = api.WaitLock, api.WaitLock, api.WaitLock
		s.Parts[0].Owners, s.Parts[0].Queues = []int{0, 0}, [][]int{{2}, {3, 1}}
		x = startAt(t, x.p.c, s)
		if kill {
			x.kill(0, api.OK)
			x.is(0, api.Killed, 2)
		} else {
			x.ticks(1)
			x.is(0, api.Exited, 2)
		}
		x.lock(0, 0, 2)
		x.lock(0, 1, 3, 1)
		x.is(1, api.WaitLock, 0)
		x.is(2, api.Ready, 2)
		x.is(3, api.Ready, 2)
	}
}

func TestAKilledOneWaitsForNoLock(t *testing.T) {
	x := start(t, one(of(0, "lock 0", "jump 1"), of(0, "lock 1", "lock 0"), of(0, "lock 0"), of(0, "jump 1", "lock 1")))
	x.ticks(8)
	x.lock(0, 0, 0, 2, 1)
	x.lock(0, 1, 1, 3)
	x.kill(1, api.OK)
	x.lock(0, 0, 0, 2)
	x.lock(0, 1, 3)
	x.is(1, api.Killed, 1)
	x.is(3, api.Ready, 2)
	x.kill(0, api.OK)
	x.lock(0, 0, 2)
	x.is(2, api.Ready, 1)
}

// Two that wait for each other wait for ever, till one is killed.
func TestAKnot(t *testing.T) {
	x := start(t, one(of(0, "lock 0", "lock 1"), of(0, "lock 1", "lock 0")))
	x.ticks(9)
	x.lock(0, 0, 0, 1)
	x.lock(0, 1, 1, 0)
	x.kill(0, api.OK)
	x.lock(0, 0, 1)
	x.lock(0, 1, 1)
	x.is(1, api.Ready, 2)
}

// P15.1: Out.

func TestAFullLog(t *testing.T) {
	for _, room := range []int{0, 1, 3} {
		x := start(t, changed(one(of(0, "out r0", "self r0", "set r0 8", "jump 0"), of(0, "out r0", "self r0", "jump 0")), func(c *api.Config) { c.Log = room }))
		x.ticks(12)
		want := []api.Entry{entry(0, 0, 0), entry(1, 1, 0), entry(7, 1, 1)}[:room]
		x.log(0, 4-room, want...)
		x.ticks(18)
		if s := x.m.State().Parts[0]; len(s.Log) != room {
			t.Errorf("%d entries", len(s.Log))
		}
	}
}

func TestLogsAreEachPartitionsOwn(t *testing.T) {
	x := start(t, three(of(1, "now r0", "out r0"), of(2, "out r0", "self r0", "out r0"), of(2, "self r0", "out r0")))
	x.ticks(18)
	x.log(0, 0)
	x.log(1, 0, entry(4, 0, 1))
	x.log(2, 0, entry(2, 1, 0), entry(11, 2, 2), entry(14, 1, 1))
}

// P15.1: counts saturate.

func TestCountsSaturate(t *testing.T) {
	c := three(of(1, "set r0 2", "send r1 r0 r0", "out r0", "recv r2 r3", "jump 1"), of(0, "set r1 2", "send r2 r1 r0", "jump 1"), of(2, "jump 0"))
	s := at(c, func(s *api.State) {
		s.Tick = 9
		s.Parts[1].Forbidden = api.MaxCount - 1
		s.Parts[1].Lost = api.MaxCount - 1
		s.Parts[1].Log = slices.Repeat([]api.Entry{entry(3, 0, 0)}, 4)
		s.Procs[0].Lanes[3].Taken, s.Procs[0].Lanes[3].Dropped = api.MaxCount-1, api.MaxCount-1
		s.Procs[2].Lanes[0] = api.Lane{Values: []int64{1}, Dropped: api.MaxCount - 1}
	})
	x := startAt(t, c, s)
	for range 6 {
		x.inject(0, 5, api.OK)
		x.inject(0, 6, api.ErrFull)
		x.ticks(3 * 4)
	}
	got := x.m.State()
	if got.Parts[1].Forbidden != 65535 || got.Parts[1].Lost != 65535 {
		t.Errorf("Forbidden, Lost: %+v", got.Parts[1])
	}
	x.lane(0, 3, 65535, 65535, got.Procs[0].Lanes[3].Values...)
	x.lane(2, 0, 0, 65535, 1)
}

// P15.1: slots.

func TestASlotInWhichNobodyIsReady(t *testing.T) {
	c := one(of(0, "recv r0 r1"), of(0, "exit"), of(0, "sleep r0", "sleep r0"))
	c.Fuel = 256
	x := start(t, c)
	x.ticks(1)
	x.is(0, api.WaitRecv, 0)
	x.is(1, api.Exited, 0)
	x.is(2, api.Asleep, 0)
	if got := x.m.State().Parts[0].Cursor; got != 0 {
		t.Errorf("the cursor: %d", got)
	}
	s := x.m.State()
	s.Procs[2].Wake = 50
	for cursor := range 3 {
		s.Parts[0].Cursor = cursor
		x = startAt(t, c, s)
		x.ticks(7)
		s.Tick += 7
		if !same(x.m.State(), s) {
			t.Errorf("a slot without anybody: %+v, not %+v", x.m.State(), s)
		}
	}
}

func TestAPartitionWithoutProcesses(t *testing.T) {
	c := three(of(1, "jump 0"))
	c.Fuel = 9
	x := start(t, c)
	for i := range 12 {
		if got := x.m.Tick(); got != i%3 {
			t.Errorf("Tick number %d: %d", i, got)
		}
		if got := x.m.State(); got.Parts[0].Cursor != 0 || got.Parts[2].Cursor != 0 || got.Tick != int64(i+1) {
			t.Errorf("behind Tick number %d: %+v", i, got)
		}
	}
}

func TestFuelEndsWithinASlot(t *testing.T) {
	// The program counter tells how many units it did.
	line := slices.Repeat([]string{"self r1"}, 100)
	for fuel := 1; fuel <= 9; fuel++ {
		x := start(t, changed(one(of(0, line...), of(0, line...), of(0, line...)), func(c *api.Config) { c.Fuel = fuel }))
		for n := 1; n <= 10; n++ {
			x.ticks(1)
			for p := range 3 {
				x.is(p, api.Ready, (n*fuel+2-p)/3)
			}
			if got := x.m.State().Parts[0].Cursor; got != n*fuel%3 {
				t.Errorf("fuel %d: the cursor behind %d ticks: %d", fuel, n, got)
			}
		}
	}
}

func TestTheMostFuel(t *testing.T) {
	x := start(t, changed(one(of(0, slices.Repeat([]string{"self r1"}, 256)...)), func(c *api.Config) { c.Fuel = api.MaxFuel }))
	x.ticks(1)
	x.is(0, api.Ready, 256)
	x.ticks(1)
	x.is(0, api.Exited, 256)
}

// Those who are not Ready are gone by, and cost nothing.
func TestTheCursorGoesByThoseWhoWait(t *testing.T) {
	c := one(of(0, "self r1", "jump 0"), of(0, "recv r0 r0"), of(0, "self r1", "jump 0"), of(0, "exit"), of(0, "self r1", "jump 0"))
	c.Fuel = 5
	x := start(t, c)
	x.ticks(1)
	for cursor := range 5 {
		s := x.m.State()
		s.Parts[0].Cursor = cursor
		for p := range s.Procs {
			if s.Procs[p].State == api.Ready {
				s.Procs[p].PC = 0
			}
		}
		c.Fuel = 1
		y := startAt(t, c, s)
		y.ticks(1)
		who := []int{0, 2, 2, 4, 4}[cursor]
		for p := range 5 {
			y.is(p, s.Procs[p].State, s.Procs[p].PC+map[bool]int{true: 1}[p == who])
		}
		if got, want := y.m.State().Parts[0].Cursor, (who+1)%5; got != want {
			t.Errorf("the cursor behind %d: %d, not %d", cursor, got, want)
		}
	}
}

// The cursor counts a partition's own processes alone.
func TestTheCursorCountsTheOwnProcesses(t *testing.T) {
	x := start(t, three(of(2, "jump 0"), of(0, "jump 0"), of(2, "jump 0"), of(1, "jump 0"), of(2, "jump 0"), of(0, "jump 0")))
	for n := 1; n <= 12; n++ {
		x.ticks(3)
		for part, procs := range []int{2, 1, 3} {
			if got := x.m.State().Parts[part].Cursor; got != n%procs {
				t.Errorf("the cursor of %d behind %d slots: %d", part, n, got)
			}
		}
	}
}

func TestTheEndOfAProgramIsOneUnit(t *testing.T) {
	c := one(of(0), of(0, "jump 1"), of(0, "self r1", "self r1"))
	x := start(t, c)
	for i, want := range [][3]int{{5, 0, 0}, {5, 0, 0}, {5, 0, 0}, {5, 5, 0}, {5, 5, 0}, {5, 5, 5}} {
		x.ticks(1)
		for p := range 3 {
			if got := x.m.State().Procs[p].State; got != want[p] {
				t.Errorf("behind %d: process %d: %d, not %d", i, p, got, want[p])
			}
		}
	}
	x.is(0, api.Exited, 0)
	x.is(1, api.Exited, 1)
	x.is(2, api.Exited, 2)
	x.reg(2, 1, 2)
}

func TestAnExitLeavesWhatItReckoned(t *testing.T) {
	x := start(t, one(of(0, "set r7 9", "timer r7", "lock 1", "exit", "set r7 1")))
	x.inject(0, 3, api.OK)
	x.ticks(3)
	x.timers(0, 10, 0, false)
	x.ticks(1)
	x.is(0, api.Exited, 3)
	x.reg(0, 7, 9)
	x.timers(0, 0, 0, false)
	x.lane(0, 1, 0, 0, 3)
	x.lock(0, 1, -1)
	x.ticks(20)
	x.is(0, api.Exited, 3)
}

func TestTheMostTicks(t *testing.T) {
	for _, table := range [][]int{{0}, {0, 1, 1}, {1, 0, 1, 0, 0, 1, 1}} {
		c := three(of(0, "timer r1", "now r2", "out r2", "sleep r3"), of(1, "now r2", "jump 0"))
		c.Table, c.Fuel = table, 8
		s := at(c, func(s *api.State) {
			s.Tick = 1<<62 - 3
			s.Procs[0].Regs[1], s.Procs[0].Regs[3] = math.MaxInt64, math.MaxInt64
			s.Procs[1].Timer = 1<<62 - 1
		})
		x := startAt(t, c, s)
		for tick := int64(1<<62 - 3); tick < 1<<62+9; tick++ {
			want := table[tick%int64(len(table))]
			if got := x.m.State().Tick; got != tick {
				t.Fatalf("Tick: %d, not %d", got, tick)
			}
			y := x.m.Copy()
			if got := y.Tick(); got != want {
				t.Errorf("the copy's Tick number %d: %d, not %d", tick, got, want)
			}
			x.ticks(1)
			if !same(y.State(), x.m.State()) {
				t.Errorf("the copy at Tick number %d: %+v, not %+v", tick, y.State(), x.m.State())
			}
		}
		if e := May(c, x.m.State()); e != api.ErrForm {
			t.Errorf("May behind too many ticks: %d", e)
		}
	}
	c := one(of(0, "timer r1", "sleep r3"))
	s := at(c, func(s *api.State) {
		s.Tick = 1 << 62
		s.Procs[0].Regs[1], s.Procs[0].Regs[3] = math.MaxInt64, math.MaxInt64
	})
	x := startAt(t, c, s)
	x.ticks(2)
	x.timers(0, 1<<62+1<<40, 1<<62+1<<40+1, false)
}

// P15.1: Inject and Kill.

func TestInjectAndKillOfNoProcess(t *testing.T) {
	x := start(t, small(0, 1))
	x.ticks(3)
	for _, p := range append([]int{2, 3}, wild...) {
		x.inject(p, 1, api.ErrAbsent)
		x.kill(p, api.ErrAbsent)
	}
}

func TestInjectAndKillOfOneThatEnded(t *testing.T) {
	x := start(t, small(0, 1))
	x.ticks(3)
	x.is(0, api.Exited, 3)
	x.kill(1, api.OK)
	for p := range 2 {
		state := x.m.State().Procs[p]
		x.inject(p, 1, api.ErrDead)
		x.kill(p, api.ErrDead)
		if !sameProcess(state, x.m.State().Procs[p]) {
			t.Errorf("process %d: %+v, not %+v", p, x.m.State().Procs[p], state)
		}
	}
}

func TestInjectFillsTheLastLane(t *testing.T) {
	for _, room := range []int{1, 2, 64} {
		c := three(of(0), of(1, "recv r0 r1"))
		c.Lane = room
		x := start(t, c)
		x.ticks(2)
		x.is(1, api.WaitRecv, 0)
		var want []int64
		for i := range room {
			x.inject(1, math.MinInt64+int64(i), api.OK)
			want = append(want, math.MinInt64+int64(i))
			x.is(1, api.Ready, 0)
			x.lane(1, 3, 0, 0, want...)
		}
		for i := range 3 {
			x.inject(1, 7, api.ErrFull)
			x.lane(1, 3, 0, i+1, want...)
		}
		x.ticks(3)
		x.reg(1, 0, math.MinInt64)
		x.reg(1, 1, 3)
		x.inject(1, 7, api.OK)
	}
}

func TestKillInEachState(t *testing.T) {
	lines := map[int][]string{
		api.Ready:    {"timer r4", "jump 1"},
		api.WaitRecv: {"timer r4", "recv r1 r2"},
		api.WaitSend: {"timer r4", "send r2 r5 r1"},
		api.WaitLock: {"timer r4", "lock 0"},
		api.Asleep:   {"timer r4", "sleep r4"},
	}
	for state, program := range lines {
		c := one(of(0, program...), of(0, "lock 0", "jump 1"))
		x := startAt(t, c, at(c, func(s *api.State) {
			s.Parts[0].Cursor = 1
			s.Procs[0].Regs = [8]int64{0, 71, 72, 73, 99, 1, 76, 77}
			s.Procs[1].Lanes[0].Values = []int64{5}
		}))
		x.ticks(5)
		x.is(0, state, 1)
		was := x.m.State().Procs[0]
		if was.Timer == 0 {
			t.Fatalf("state %d: no timer: %+v", state, was)
		}
		x.kill(0, api.OK)
		x.is(0, api.Killed, 1)
		x.timers(0, 0, 0, false)
		if got := x.m.State().Procs[0]; got.Regs != was.Regs || !slices.EqualFunc(got.Lanes, was.Lanes, sameLane) {
			t.Errorf("state %d: %+v, not %+v", state, got, was)
		}
		x.waiters(1, 0)
		x.lock(0, 0, 1)
		x.ticks(120)
		x.is(0, api.Killed, 1)
	}
}

func TestKillTakesFiredAway(t *testing.T) {
	c := one(of(0, "jump 0"))
	x := startAt(t, c, at(c, func(s *api.State) { s.Procs[0].Fired, s.Procs[0].Timer = true, 5 }))
	x.kill(0, api.OK)
	x.timers(0, 0, 0, false)
}

// P15.1: what reckons is told by cpu; here that it is asked with the tick and the process's number.
func TestNowAndSelf(t *testing.T) {
	x := start(t, three(of(2, "now r1", "jump 0"), of(1, "self r1", "jump 0"), of(2, "self r1", "now r2", "jump 1")))
	x.ticks(30)
	x.reg(0, 1, 26)
	x.reg(1, 1, 1)
	x.reg(2, 1, 2)
	x.reg(2, 2, 23)
}

// seen counts what came by.
type seen struct {
	states  [7]int
	let     int // waiters that are let in
	gone    int // replies 2
	given   int // locks that a waiter has now
	fired   int
	dropped int
	lost    int
	forbid  int
}

func (n *seen) look(before, after api.State) {
	for p, x := range after.Procs {
		y := before.Procs[p]
		n.states[x.State]++
		if y.State == api.WaitLock && x.State == api.Ready {
			n.given++
		}
		if x.Fired {
			n.fired++
		}
		for i, l := range x.Lanes {
			if l.Dropped > y.Lanes[i].Dropped {
				n.dropped++
			}
			if len(l.Waiters) < len(y.Lanes[i].Waiters) && l.Taken > y.Lanes[i].Taken {
				n.let++
			}
			if len(l.Waiters) < len(y.Lanes[i].Waiters) && ended(x.State) {
				n.gone++
			}
		}
	}
	for i, p := range after.Parts {
		n.lost += p.Lost - before.Parts[i].Lost
		n.forbid += p.Forbidden - before.Parts[i].Forbidden
	}
}

// some does something by chance.
func (x *pair) some(c *chance) {
	x.t.Helper()
	p := c.next(len(x.p.c.Procs)+2) - 1
	switch c.next(45) {
	case 0:
		want := x.p.Kill(p)
		if got := x.m.Kill(p); got != want {
			x.t.Fatalf("Kill(%d): %d, not %d", p, got, want)
		}
		x.look()
	case 1, 2, 3, 4:
		v := int64(c.next(9)) - 4
		want := x.p.Inject(p, v)
		if got := x.m.Inject(p, v); got != want {
			x.t.Fatalf("Inject(%d, %d): %d, not %d", p, v, got, want)
		}
		x.look()
	default:
		x.ticks(1)
	}
}

func TestMachinesAsTheDocumentSaysThem(t *testing.T) {
	c := chance(3)
	var n seen
	for range 6000 {
		x := start(t, c.config())
		for range 60 {
			before := clone(x.p.s)
			x.some(&c)
			n.look(before, x.p.s)
		}
	}
	for state, many := range n.states {
		if many < 1000 {
			t.Errorf("the state %d came by %d times", state, many)
		}
	}
	for i, many := range []int{n.let, n.gone, n.given, n.fired, n.dropped, n.lost, n.forbid} {
		if many < 300 {
			t.Errorf("what is number %d came by %d times: %+v", i, many, n)
		}
	}
}

func TestTheGreatestMachine(t *testing.T) {
	c := api.Config{Fuel: api.MaxFuel, Lane: api.MaxLane, Locks: api.MaxLocks, Log: api.MaxLog}
	for i := range api.MaxParts {
		c.Labels = append(c.Labels, 1<<i-1)
	}
	for i := range api.MaxTable {
		c.Table = append(c.Table, (i*5)%api.MaxParts)
	}
	source := chance(9)
	for i := range api.MaxProcs {
		l := append(source.code(api.MaxProcs, api.MaxLocks), api.Ins{Op: api.OpJump})
		for len(l) < api.MaxCode {
			l = append(l, api.Ins{Op: api.OpOut, A: len(l) % 8})
		}
		c.Procs = append(c.Procs, api.Proc{Part: i % api.MaxParts, Code: l})
	}
	x := start(t, c)
	for range 300 {
		x.some(&source)
	}
}
