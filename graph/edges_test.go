package graph

import (
	"math"
	"slices"
	"testing"

	"firebreak/api"
	"firebreak/machine"
)

// P20.1: states in which nobody waits for somebody.

func TestNobodyWaits(t *testing.T) {
	for _, c := range []api.Config{
		one(of(0)), one(of(0, "jump 0"), of(0, "exit")), one(of(0, "recv r0 r1")), one(of(0, "set r0 9", "sleep r0")), one(of(0, "lock 0", "jump 1"), of(0, "lock 1", "lock 1", "jump 2")),
		one(of(0, "self r0", "send r1 r0 r0", "recv r2 r3", "recv r2 r3")), one(of(0, "set r0 5", "timer r0", "recv r1 r2")), two(of(0, "set r0 1", "send r1 r0 r0", "jump 1"), of(1, "jump 0")),
		two(of(1, "set r0 1", "send r1 r0 r0", "jump 1"), of(0, "recv r0 r1")), one(of(0, "set r0 9", "send r1 r0 r0", "jump 0")),
	} {
		m := start(t, c)
		for range 20 {
			none(t, c, m.State())
			m.Tick()
		}
		m.Kill(0)
		none(t, c, m.State())
	}
}

// Who waits to receive, or sleeps, waits for nobody, also where others wait for them.
func TestWhoReceivesOrSleepsHasNoEdge(t *testing.T) {
	c := one(of(0, "set r0 99", "sleep r0"), of(0, "recv r0 r1"), of(0, "send r1 r0 r0", "send r1 r0 r0"), of(0, "lock 0", "recv r0 r1"), of(0, "lock 0"))
	s := run(t, c, 20).State()
	for p, state := range []int{api.Asleep, api.WaitRecv, api.WaitSend, api.WaitRecv, api.WaitLock} {
		if s.Procs[p].State != state {
			t.Fatalf("process %d: %d, not %d", p, s.Procs[p].State, state)
		}
	}
	tell(t, c, s, list(2, 0, 4, 3), list(4, 3))
}

// P20.1: who waits for a lock waits for who holds it.

func TestOneWaitsForALock(t *testing.T) {
	c := one(of(0, "lock 2", "jump 1"), of(0, "lock 2"))
	m := run(t, c, 1)
	none(t, c, m.State())
	m.Tick()
	tell(t, c, m.State(), list(1, 0), list(1, 0))
	m.Kill(0)
	none(t, c, m.State())
}

func TestSeveralWaitForOneLock(t *testing.T) {
	holds := of(0, "lock 0", "recv r0 r1", "unlock 0", "jump 3")
	c := one(holds, holds, holds, holds)
	m := run(t, c, 4)
	tell(t, c, m.State(), list(1, 0, 2, 0, 3, 0), list(1, 0, 2, 0, 3, 0))
	// Who holds it now has none; all others now wait for them.
	for p := range 3 {
		m.Inject(p, 1)
		for range 20 {
			m.Tick()
		}
		var want [][2]int
		for q := p + 2; q < 4; q++ {
			want = append(want, [2]int{q, p + 1})
		}
		tell(t, c, m.State(), want, want)
	}
}

// They are told by number, not in the order in which they came.
func TestWhoCameFirstIsNotToldFirst(t *testing.T) {
	c := one(of(0, "now r0", "now r0", "lock 0"), of(0, "now r0", "lock 0"), of(0, "lock 0", "jump 1"))
	s := run(t, c, 12).State()
	if q := s.Parts[0].Queues[0]; !slices.Equal(q, []int{1, 0}) {
		t.Fatalf("the queue: %v", q)
	}
	tell(t, c, s, list(0, 2, 1, 2), list(0, 2, 1, 2))
	c = one(of(0, "now r0", "lock 2", "jump 2"), of(0, "now r0", "now r0", "lock 2"), of(0, "lock 0", "jump 1"), of(0, "now r0", "lock 0"), of(0, "now r0", "lock 2"))
	s = run(t, c, 20).State()
	tell(t, c, s, list(1, 0, 3, 2, 4, 0), list(1, 0, 3, 2, 4, 0))
}

func TestLocksOfOneNumberInTwoPartitions(t *testing.T) {
	c := two(of(1, "lock 1", "jump 1"), of(0, "lock 1", "jump 1"), of(0, "lock 1"), of(1, "lock 1"))
	tell(t, c, run(t, c, 8).State(), list(2, 1, 3, 0), list(2, 1, 3, 0))
	c = two(of(0, "lock 0", "jump 1"), of(1, "lock 1", "jump 1"), of(1, "lock 0"), of(0, "lock 1"))
	none(t, c, run(t, c, 20).State())
}

// P20.1: who waits for room waits for the process whose lane it is.

func TestOneWaitsForRoom(t *testing.T) {
	c := one(of(0, "recv r0 r1", "jump 1"), of(0, "send r1 r0 r0", "send r1 r0 r0", "send r1 r0 r0"))
	m := run(t, c, 5)
	none(t, c, m.State())
	m.Tick()
	tell(t, c, m.State(), list(1, 0), nil)
	m.Kill(0)
	none(t, c, m.State())
}

func TestOneWaitsForRoomInItsOwnLane(t *testing.T) {
	c := one(of(0, "jump 0"), of(0, "self r0", "send r1 r0 r0", "send r1 r0 r0"))
	m := run(t, c, 4)
	none(t, c, m.State())
	for range 5 {
		m.Tick()
	}
	tell(t, c, m.State(), list(1, 1), nil)
	rings(t, Edges(c, m.State()), 1)
	m.Kill(1)
	none(t, c, m.State())
}

func TestSeveralWaitForRoom(t *testing.T) {
	fills := of(0, "set r0 2", "send r1 r0 r0", "jump 1")
	other := of(0, "set r0 3", "send r1 r0 r0", "jump 1")
	c := one(fills, other, of(0, "jump 0"), of(0, "jump 0"), other, fills)
	m := run(t, c, 60)
	tell(t, c, m.State(), list(0, 2, 1, 3, 4, 3, 5, 2), nil)
	m.Kill(4)
	tell(t, c, m.State(), list(0, 2, 1, 3, 5, 2), nil)
	m.Kill(2)
	tell(t, c, m.State(), list(1, 3), nil)
}

// P20.1: both kinds at once.

func TestLocksAndRoomAtOnce(t *testing.T) {
	c := crossed()
	s := run(t, c, 12).State()
	tell(t, c, s, list(0, 1, 1, 0, 2, 2), list(0, 1, 1, 0))
	rings(t, Locked(c, s), 0, 1)
	rings(t, Edges(c, s), 0, 1)
	// The process 0 holds a lock, and waits for room in the lane of 1, which waits for that lock.
	c = one(of(0, "lock 0", "set r0 1", "send r1 r0 r0", "send r1 r0 r0"), of(0, "now r0", "now r0", "lock 0"), of(0, "jump 0"), of(0, "lock 0"))
	s = run(t, c, 20).State()
	tell(t, c, s, list(0, 1, 1, 0, 3, 0), list(1, 0, 3, 0))
	rings(t, Edges(c, s), 0, 1)
	rings(t, Locked(c, s))
	m := run(t, c, 20)
	m.Kill(1)
	tell(t, c, m.State(), list(3, 0), list(3, 0))
}

// As many processes, locks, lanes and partitions as there may be.
func TestTheGreatestNumbers(t *testing.T) {
	c := api.Config{Labels: []uint64{0, 1, 2, 3, 4, 5, 6, math.MaxUint64}, Table: []int{7}, Fuel: api.MaxFuel, Lane: api.MaxLane, Locks: api.MaxLocks}
	var all, locked [][2]int
	for p := range api.MaxProcs {
		switch {
		case p == api.MaxProcs-1:
			c.Procs = append(c.Procs, of(7, "lock 7", "set r0 31", "send r1 r0 r0", "jump 2"))
			all = append(all, [2]int{p, p})
		case p%3 == 0:
			c.Procs = append(c.Procs, of(7, "set r0 9", "sub r0 r0 r1", "lock 6", "lock 7"))
		default:
			c.Procs = append(c.Procs, of(7, "set r0 31", "send r1 r0 r0", "jump 1"))
			all = append(all, [2]int{p, 31})
		}
	}
	for p := 0; p < 31; p += 3 {
		to := 31
		if p > 0 {
			to = 0
		}
		locked = append(locked, [2]int{p, to})
	}
	tell(t, c, run(t, c, 30).State(), byFirst(append(all, locked...)), locked)
}

// P20.1: machines of all kinds, however they were driven.

func TestChanceMachines(t *testing.T) {
	c := chance(11)
	byLocks, byRoom, own, several := 0, 0, 0, 0
	for range 900 {
		x := c.config()
		m := start(t, x)
		for range 40 {
			s := m.State()
			all, locked := plainEdges(s), plainLocked(s)
			tell(t, x, s, all, locked)
			byLocks += min(len(locked), 1)
			byRoom += min(len(all)-len(locked), 1)
			several += len(all) / 3
			if slices.ContainsFunc(all, func(e [2]int) bool { return e[0] == e[1] }) {
				own++
			}
			c.drive(m, len(x.Procs))
		}
	}
	if byLocks < 3000 || byRoom < 3000 || own < 1000 || several < 1000 {
		t.Errorf("%d with locks, %d with room, %d with their own; %d with several", byLocks, byRoom, own, several)
	}
}

// A machine that is laid, or copied, has the edges of the first one.
func TestOfALaidMachine(t *testing.T) {
	c := crossed()
	m := run(t, c, 12)
	laid, e := machine.Lay(c, m.State())
	if e != api.OK {
		t.Fatalf("machine.Lay: %d", e)
	}
	for range 5 {
		tell(t, c, laid.State(), list(0, 1, 1, 0, 2, 2), list(0, 1, 1, 0))
		tell(t, c, m.Copy().State(), list(0, 1, 1, 0, 2, 2), list(0, 1, 1, 0))
		laid.Tick()
	}
}

// Of a state that no machine came to, but that may be, the edges are told as of any other one.
func TestOfAStateThatIsMade(t *testing.T) {
	c := one(of(0, "lock 1"), of(0, "lock 2"), of(0, "lock 0"), of(0, "send r3 r1 r2"))
	lane := []api.Lane{{}, {}}
	s := api.State{Tick: 1 << 62, Parts: []api.Part{{Owners: []int{0, 1, 2}, Queues: [][]int{{2}, {0}, {1}}}}, Procs: []api.Process{
		{State: api.WaitLock, Lanes: lane}, {State: api.WaitLock, Lanes: lane}, {State: api.WaitLock, Lanes: lane},
		{State: api.WaitSend, Lanes: []api.Lane{{Values: []int64{4}, Waiters: []api.Waiter{{Proc: 3, Value: -8}}}, {}}, Regs: [8]int64{0, 3, -8, 2}},
	}}
	tell(t, c, s, list(0, 1, 1, 2, 2, 0, 3, 3), list(0, 1, 1, 2, 2, 0))
	rings(t, Locked(c, s), 0, 1, 2)
}

// P20.1: what is no state of the config.

func TestNoStateOfTheConfig(t *testing.T) {
	c := crossed()
	m := run(t, c, 12)
	none(t, c, api.State{})
	none(t, api.Config{}, m.State())
	none(t, api.Config{}, api.State{})
	others := []api.Config{one(of(0, "jump 0")), two(c.Procs...), one(c.Procs[1], c.Procs[0], c.Procs[2]), one(c.Procs[:2]...), one(append(c.Procs, of(0))...)}
	for _, other := range others {
		none(t, other, m.State())
		none(t, c, start(t, other).State())
	}
	for i, change := range []func(s *api.State){
		func(s *api.State) { s.Tick = -1 },
		func(s *api.State) { s.Tick = 1<<62 + 1 },
		func(s *api.State) { s.Procs[0].PC = 0 },
		func(s *api.State) { s.Procs[0].PC = 1 },
		func(s *api.State) { s.Procs[0].PC = 3 },
		func(s *api.State) { s.Procs[0].PC = 4 },
		func(s *api.State) { s.Procs[0].PC = -1 },
		func(s *api.State) { s.Procs[0].PC = math.MinInt },
		func(s *api.State) { s.Procs[0].State = api.WaitSend },
		func(s *api.State) { s.Procs[0].State = api.Ready },
		func(s *api.State) { s.Procs[0].State = 7 },
		func(s *api.State) { s.Procs[2].State = api.WaitLock },
		func(s *api.State) { s.Procs[2].Regs[0] = 1 },
		func(s *api.State) { s.Procs[2].Regs[0] = 1<<32 + 2 },
		func(s *api.State) { s.Procs[2].Regs[0] = math.MinInt64 },
		func(s *api.State) { s.Procs[2].Lanes[0].Waiters = nil },
		func(s *api.State) { s.Procs[2].Lanes = nil },
		func(s *api.State) { s.Procs[2].Cursor = 2 },
		func(s *api.State) { s.Parts[0].Owners[0] = -1 },
		func(s *api.State) { s.Parts[0].Owners[0] = 1 },
		func(s *api.State) { s.Parts[0].Owners[0] = 3 },
		func(s *api.State) { s.Parts[0].Owners = nil },
		func(s *api.State) { s.Parts[0].Queues = nil },
		func(s *api.State) { s.Parts[0].Queues[2] = []int{0} },
		func(s *api.State) { s.Parts[0].Queues[0] = nil },
		func(s *api.State) { s.Parts = nil },
		func(s *api.State) { s.Procs = nil },
		func(s *api.State) { s.Procs = s.Procs[:2] },
	} {
		s := m.State()
		change(&s)
		if machine.May(c, s) == api.OK {
			t.Fatalf("the change %d leaves a state that may be", i)
		}
		none(t, c, s)
	}
}

func TestAConfigThatMayNotBe(t *testing.T) {
	s := run(t, crossed(), 12).State()
	for i, change := range []func(c *api.Config){
		func(c *api.Config) { c.Labels = nil },
		func(c *api.Config) { c.Table = []int{1} },
		func(c *api.Config) { c.Table = nil },
		func(c *api.Config) { c.Fuel = 0 },
		func(c *api.Config) { c.Lane = 0 },
		func(c *api.Config) { c.Lane = 65 },
		func(c *api.Config) { c.Locks = 1 },
		func(c *api.Config) { c.Locks = -1 },
		func(c *api.Config) { c.Locks = 9 },
		func(c *api.Config) { c.Log = -1 },
		func(c *api.Config) { c.Procs = nil },
		func(c *api.Config) { c.Procs[2].Part = 1 },
		func(c *api.Config) { c.Procs[2].Part = -1 },
		func(c *api.Config) { c.Procs[0].Code[2].Imm = 3 },
		func(c *api.Config) { c.Procs[0].Code[2].A = 1 },
		func(c *api.Config) { c.Procs[2].Code[2].B = 8 },
		func(c *api.Config) { c.Procs[2].Code = make([]api.Ins, 257) },
	} {
		c := crossed()
		change(&c)
		if e := machine.May(c, s); e == api.OK || e == api.ErrForm {
			t.Fatalf("the change %d: %d", i, e)
		}
		none(t, c, s)
	}
}

// R1: states with anything in them have edges just if they may be.
func TestChangedStates(t *testing.T) {
	c := chance(12)
	may, not := 0, 0
	for range 700 {
		x := c.config()
		m := start(t, x)
		for range c.next(60) {
			c.drive(m, len(x.Procs))
		}
		for range 25 {
			s := m.State()
			c.change(&s)
			if machine.May(x, s) != api.OK {
				not++
				none(t, x, s)
				continue
			}
			may++
			tell(t, x, s, plainEdges(s), plainLocked(s))
		}
	}
	if may < 1000 || not < 3000 {
		t.Errorf("%d may be, %d may not", may, not)
	}
}

// change changes one thing of a state, which has a part and a process.
func (c *chance) change(s *api.State) {
	number := c.next(12) - 2
	if c.next(4) == 0 {
		number = wild[c.next(len(wild))]
	}
	part, proc := &s.Parts[c.next(len(s.Parts))], &s.Procs[c.next(len(s.Procs))]
	lane := &proc.Lanes[c.next(len(proc.Lanes))]
	lock := c.next(len(part.Owners))
	switch c.next(16) {
	case 0:
		s.Tick = int64(number)
	case 1:
		part.Owners[lock] = number
	case 2:
		part.Queues[lock] = append(part.Queues[lock], number)
	case 3:
		slices.Reverse(part.Queues[lock])
	case 4:
		part.Queues[lock] = nil
	case 5:
		part.Owners = part.Owners[:lock]
	case 6:
		part.Queues = part.Queues[:lock]
	case 7:
		proc.State = number
	case 8:
		proc.PC = number
	case 9:
		proc.Regs[c.next(8)] = int64(number)
	case 10:
		lane.Waiters = append(lane.Waiters, api.Waiter{Proc: number})
	case 11:
		lane.Waiters = nil
	case 12:
		slices.Reverse(lane.Waiters)
	case 13:
		lane.Values = append(lane.Values, int64(number))
	case 14:
		proc.Lanes = proc.Lanes[:c.next(len(proc.Lanes))]
	case 15:
		s.Procs = s.Procs[:c.next(len(s.Procs))]
	}
}
