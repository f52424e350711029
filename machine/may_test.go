package machine

import (
	"math"
	"slices"
	"testing"

	"firebreak/api"
	"firebreak/conf"
)

// plainMay is what May answers, as the chapter says it, number by number.
func plainMay(c api.Config, s api.State) api.Errno {
	if e, _ := conf.May(c); e != api.OK {
		return e
	}
	if !plainSizes(c, s) || !plainParts(c, s) || !plainProcs(c, s) || !plainWaits(c, s) {
		return api.ErrForm
	}
	return api.OK
}

// between tells whether a number is from one on and to another one.
func between(v, least, most int64) bool { return least <= v && v <= most }

// belongs tells whether there is a process of that number, of that partition.
func belongs(c api.Config, p, part int) bool {
	return slices.Contains((&plain{c: c}).members(part), p)
}

// living tells whether it lives, too.
func living(c api.Config, s api.State, p, part int) bool {
	return belongs(c, p, part) && s.Procs[p].State != api.Exited && s.Procs[p].State != api.Killed
}

// instruction is the one at a process's program counter; one that there isn't, if there is none.
func instruction(c api.Config, s api.State, p int) api.Ins {
	if s.Procs[p].PC == len(c.Procs[p].Code) {
		return api.Ins{Op: -1}
	}
	return c.Procs[p].Code[s.Procs[p].PC]
}

func plainSizes(c api.Config, s api.State) bool {
	return between(s.Tick, 0, 1<<62) && len(s.Parts) == len(c.Labels) && len(s.Procs) == len(c.Procs)
}

// plainParts is the number 1.
func plainParts(c api.Config, s api.State) bool {
	for i, p := range s.Parts {
		many := len((&plain{c: c}).members(i))
		if p.Cursor != 0 && !(p.Cursor > 0 && p.Cursor < many) {
			return false
		}
		if len(p.Log) > c.Log {
			return false
		}
		for k, e := range p.Log {
			if e.Tick < 0 || e.Tick >= s.Tick || k > 0 && e.Tick < p.Log[k-1].Tick || !belongs(c, e.Proc, i) {
				return false
			}
		}
		if !between(int64(p.Lost), 0, 65535) || !between(int64(p.Forbidden), 0, 65535) || p.Lost != 0 && len(p.Log) != c.Log {
			return false
		}
		if len(p.Owners) != c.Locks || len(p.Queues) != c.Locks {
			return false
		}
		for _, o := range p.Owners {
			if o != -1 && !living(c, s, o, i) {
				return false
			}
		}
	}
	return true
}

// plainProcs is the number 2.
func plainProcs(c api.Config, s api.State) bool {
	for n, p := range s.Procs {
		if !slices.Contains([]int{0, 1, 2, 3, 4, 5, 6}, p.State) || !between(int64(p.PC), 0, int64(len(c.Procs[n].Code))) {
			return false
		}
		if len(p.Lanes) != len(c.Labels)+1 || !between(int64(p.Cursor), 0, int64(len(p.Lanes)-1)) {
			return false
		}
		for k, l := range p.Lanes {
			if len(l.Values) > c.Lane || !between(int64(l.Taken), 0, 65535) || !between(int64(l.Dropped), 0, 65535) {
				return false
			}
			if k < len(c.Labels) && c.Labels[k]&^c.Labels[c.Procs[n].Part] != 0 && (len(l.Values) > 0 || l.Taken != 0 || l.Dropped != 0) {
				return false
			}
		}
		if !between(p.Timer, 0, s.Tick+1<<40) || !between(p.Wake, 0, s.Tick+1<<40) {
			return false
		}
		if p.Wake > 0 && p.State != api.Asleep || p.Wake == 0 && p.State == api.Asleep {
			return false
		}
		if (p.State == api.Exited || p.State == api.Killed) && (p.Timer != 0 || p.Wake != 0 || p.Fired) {
			return false
		}
	}
	return true
}

// place is where somebody waits: a lock of a partition, or a lane of a process.
type place struct {
	p, of, number int
	value         int64
}

// plainWaits is the number 3.
func plainWaits(c api.Config, s api.State) bool {
	var locks, lanes []place
	for i, part := range s.Parts {
		for lock, queue := range part.Queues {
			for _, p := range queue {
				locks = append(locks, place{p: p, of: i, number: lock})
			}
		}
	}
	for q, x := range s.Procs {
		for k, l := range x.Lanes {
			for _, w := range l.Waiters {
				lanes = append(lanes, place{w.Proc, q, k, w.Value})
			}
		}
	}
	of := func(list []place, p int) (out []place) {
		for _, w := range list {
			if w.p == p {
				out = append(out, w)
			}
		}
		return out
	}
	for _, w := range slices.Concat(locks, lanes) {
		if w.p < 0 || w.p >= len(s.Procs) {
			return false
		}
	}
	for p, x := range s.Procs {
		if !plainLock(c, s, p, of(locks, p)) || !plainSend(c, s, p, of(lanes, p)) {
			return false
		}
		in := instruction(c, s, p)
		empty := !slices.ContainsFunc(x.Lanes, func(l api.Lane) bool { return len(l.Values) > 0 })
		if x.State == api.WaitRecv && (in.Op != api.OpRecv || !empty || x.Fired) || x.State == api.Asleep && in.Op != api.OpSleep {
			return false
		}
	}
	return true
}

func plainLock(c api.Config, s api.State, p int, where []place) bool {
	if s.Procs[p].State != api.WaitLock {
		return len(where) == 0
	}
	if len(where) != 1 || where[0].of != c.Procs[p].Part {
		return false
	}
	in, owner := instruction(c, s, p), s.Parts[where[0].of].Owners[where[0].number]
	return in.Op == api.OpLock && in.Imm == int64(where[0].number) && owner != -1 && owner != p
}

func plainSend(c api.Config, s api.State, p int, where []place) bool {
	if s.Procs[p].State != api.WaitSend {
		return len(where) == 0
	}
	if len(where) != 1 {
		return false
	}
	w, in, part, r := where[0], instruction(c, s, p), c.Procs[p].Part, s.Procs[p].Regs
	return in.Op == api.OpSend && w.number == part && living(c, s, w.of, part) && r[in.B] == int64(w.of) && r[in.C] == w.value &&
		len(s.Procs[w.of].Lanes[part].Values) == c.Lane
}

// asks holds May and Lay against the chapter.
func asks(t *testing.T, c api.Config, s api.State, want api.Errno) {
	t.Helper()
	if e := plainMay(c, s); e != want {
		t.Errorf("plainly: %d, not %d: %+v", e, want, s)
	}
	if e := May(c, s); e != want {
		t.Errorf("May: %d, not %d: %+v", e, want, s)
	}
	m, e := Lay(c, s)
	if e != want || (m == nil) != (want != api.OK) {
		t.Errorf("Lay: %v, %d, not %d: %+v", m, e, want, s)
	}
	if m != nil && !same(m.State(), s) {
		t.Errorf("Lay stands as %+v, not %+v", m.State(), s)
	}
}

// stood is a machine in which somebody is in each state, and all lists have something. The partition 1 has the processes 1 to 6; the partition 2 has 7 and 8; 0 flows to both, 1 doesn't flow to 2.
func stood() (api.Config, api.State) {
	c := three(
		of(0, "recv r1 r2", "jump 0"),
		of(1, "sleep r0", "lock 0", "send r3 r1 r2", "recv r4 r5"),
		of(1, "lock 0", "lock 1", "send r3 r1 r2", "recv r4 r5", "sleep r0", "lock 0"),
		of(1, "send r3 r1 r2", "lock 0", "send r3 r4 r2", "recv r4 r5"),
		of(1, "recv r4 r5", "jump 0", "lock 0", "send r3 r1 r2"),
		of(1, "exit", "lock 0", "send r3 r1 r2"),
		of(1, "jump 0", "lock 0", "send r3 r1 r2"),
		of(2, "recv r1 r2", "send r3 r1 r2", "lock 0"),
		of(2, "jump 0", "lock 0"),
	)
	c.Lane = 2
	s := at(c, func(s *api.State) {
		s.Tick = 100
		s.Parts[0].Forbidden = 3
		s.Parts[1].Cursor = 5
		s.Parts[1].Log = []api.Entry{entry(0, 1, 5), entry(4, 5, 6), entry(4, 6, 7), entry(99, 4, 8)}
		s.Parts[1].Lost = 65535
		s.Parts[1].Owners, s.Parts[1].Queues = []int{6, -1}, [][]int{{2}, nil}
		s.Parts[2].Cursor = 1
		s.Parts[2].Log = []api.Entry{entry(50, 8, 1)}
		s.Procs[0].Cursor, s.Procs[0].Timer = 3, 101
		s.Procs[0].State = api.WaitRecv
		x := &s.Procs[1]
		x.State, x.Wake, x.Timer, x.Fired = api.Asleep, 100+1<<40, 100+1<<40, true
		x.Lanes[0] = api.Lane{Values: []int64{1}, Taken: 65535, Dropped: 65535}
		x.Lanes[1] = api.Lane{Values: []int64{2, 3}, Waiters: []api.Waiter{who(3, 30)}}
		x.Lanes[3] = api.Lane{Values: []int64{4, 5}, Dropped: 7}
		s.Procs[2].State, s.Procs[2].Fired = api.WaitLock, true
		s.Procs[3].State = api.WaitSend
		s.Procs[3].Regs[1], s.Procs[3].Regs[2] = 1, 30
		s.Procs[4].State, s.Procs[4].Timer = api.WaitRecv, 1
		s.Procs[5].State = api.Exited
		s.Procs[5].Lanes[1].Values = []int64{9, 9}
		s.Procs[6].PC = 3
		s.Procs[6].Fired, s.Procs[6].Timer = true, 5
		s.Procs[7].State = api.Killed
		s.Procs[7].Lanes[0].Dropped = 2
	})
	return c, s
}

// P15.2: what May takes.

func TestMayTakesWhatStands(t *testing.T) {
	c, s := stood()
	asks(t, c, s, api.OK)
	asks(t, c, fresh(c).s, api.OK)
	for _, change := range []func(s *api.State){
		func(s *api.State) { s.Parts[1].Log[0].Tick = 4 },
		func(s *api.State) { s.Parts[1].Lost = 0 },
		func(s *api.State) { s.Parts[1].Forbidden = 65535 },
		func(s *api.State) { s.Parts[1].Log, s.Parts[1].Lost = s.Parts[1].Log[:3], 0 },
		func(s *api.State) { s.Parts[1].Log, s.Parts[1].Lost = nil, 0 },
		func(s *api.State) { s.Parts[1].Log[3].Tick = 4 },
		func(s *api.State) { s.Parts[1].Cursor = 0 },
		func(s *api.State) { s.Parts[1].Owners[0] = 1 },
		func(s *api.State) { s.Parts[1].Owners[1] = 2 },
		func(s *api.State) { s.Parts[1].Owners[1] = 3 },
		func(s *api.State) { s.Parts[2].Owners[0] = 8 },
		func(s *api.State) { s.Parts[0].Owners[1] = 0 },
		func(s *api.State) { s.Procs[0].Cursor = 0 },
		func(s *api.State) { s.Procs[0].Timer = 0 },
		func(s *api.State) { s.Procs[0].State, s.Procs[0].PC = api.Ready, 2 },
		func(s *api.State) { s.Procs[1].Wake = 1 },
		func(s *api.State) { s.Procs[1].Timer = 1<<40 + 99 },
		func(s *api.State) { s.Procs[1].Lanes[2].Values = nil },
		func(s *api.State) { s.Procs[4].State = api.Ready },
		func(s *api.State) { s.Procs[5].State = api.Killed },
		func(s *api.State) { s.Procs[5].PC = 3 },
		func(s *api.State) { s.Procs[5].Regs[1] = 1 << 40 },
		func(s *api.State) { s.Tick = 1 << 62 },
	} {
		d := clone(s)
		change(&d)
		asks(t, c, d, api.OK)
	}
}

// Each list without elements may be nil or not.
func TestMayTakesListsWithoutElements(t *testing.T) {
	c := changed(one(of(0)), func(c *api.Config) { c.Locks = 0 })
	asks(t, c, fresh(c).s, api.OK)
	asks(t, c, at(c, func(s *api.State) {
		s.Parts[0] = api.Part{Log: []api.Entry{}, Owners: []int{}, Queues: [][]int{}}
		s.Procs[0].Lanes[0] = api.Lane{Values: []int64{}, Waiters: []api.Waiter{}}
	}), api.OK)
}

// Rings may be, of locks and of lanes.
func TestMayTakesRings(t *testing.T) {
	c := one(of(0, "lock 0", "lock 1"), of(0, "lock 1", "lock 0"), of(0, "send r1 r2 r3"), of(0, "send r1 r2 r3"), of(0, "send r1 r2 r3"))
	asks(t, c, at(c, func(s *api.State) {
		s.Parts[0].Owners, s.Parts[0].Queues = []int{0, 1}, [][]int{{1}, {0}}
		for p := range 2 {
			s.Procs[p].State, s.Procs[p].PC = api.WaitLock, 1
		}
		for p, to := range []int{2: 3, 3: 2, 4: 4} {
			if p < 2 {
				continue
			}
			s.Procs[p].State, s.Procs[p].Regs[2] = api.WaitSend, int64(to)
			s.Procs[p].Lanes[0].Values = []int64{1}
			s.Procs[to].Lanes[0].Waiters = []api.Waiter{who(p, 0)}
		}
	}), api.OK)
}

// P15.2: what May bars, each thing broken alone.

// barred are changes of what stood tells, each of which May bars.
func barred() []func(s *api.State) {
	list := []func(s *api.State){
		// 1: sizes and partitions.
		func(s *api.State) { s.Tick = -1 },
		func(s *api.State) { s.Tick = 1<<62 + 1 },
		func(s *api.State) { s.Tick = math.MinInt64 },
		func(s *api.State) { s.Tick = math.MaxInt64 },
		func(s *api.State) { s.Parts = s.Parts[:2] },
		func(s *api.State) { s.Parts = nil },
		func(s *api.State) {
			s.Parts = append(s.Parts, api.Part{Owners: []int{-1, -1}, Queues: make([][]int, 2)})
		},
		func(s *api.State) { s.Procs = s.Procs[:8] },
		func(s *api.State) { s.Procs = nil },
		func(s *api.State) { s.Procs = append(s.Procs, api.Process{Lanes: make([]api.Lane, 4)}) },
		func(s *api.State) { s.Parts[0].Cursor = 1 },
		func(s *api.State) { s.Parts[1].Cursor = 6 },
		func(s *api.State) { s.Parts[1].Cursor = -1 },
		func(s *api.State) { s.Parts[2].Cursor = 2 },
		func(s *api.State) { s.Parts[2].Cursor = math.MinInt },
		func(s *api.State) { s.Parts[2].Cursor = math.MaxInt },
		func(s *api.State) { s.Parts[1].Log = append(s.Parts[1].Log, entry(99, 1, 1)) },
		func(s *api.State) { s.Parts[1].Log[0].Tick = -1 },
		func(s *api.State) { s.Parts[1].Log[0].Tick = 5 },
		func(s *api.State) { s.Parts[1].Log[2].Tick = 3 },
		func(s *api.State) { s.Parts[1].Log[3].Tick = 100 },
		func(s *api.State) { s.Parts[1].Log[3].Tick = 3 },
		func(s *api.State) { s.Parts[2].Log[0].Tick = 100 },
		func(s *api.State) { s.Parts[2].Log[0].Tick = math.MaxInt64 },
		func(s *api.State) { s.Parts[1].Log[0].Proc = 0 },
		func(s *api.State) { s.Parts[1].Log[0].Proc = 7 },
		func(s *api.State) { s.Parts[1].Log[0].Proc = -1 },
		func(s *api.State) { s.Parts[1].Log[3].Proc = 9 },
		func(s *api.State) { s.Parts[1].Lost = -1 },
		func(s *api.State) { s.Parts[1].Lost = 65536 },
		func(s *api.State) { s.Parts[1].Log = s.Parts[1].Log[:3] },
		func(s *api.State) { s.Parts[2].Lost = 1 },
		func(s *api.State) { s.Parts[0].Lost = 1 },
		func(s *api.State) { s.Parts[0].Forbidden = -1 },
		func(s *api.State) { s.Parts[2].Forbidden = 65536 },
		func(s *api.State) { s.Parts[2].Owners = s.Parts[2].Owners[:1] },
		func(s *api.State) { s.Parts[2].Owners = append(s.Parts[2].Owners, -1) },
		func(s *api.State) { s.Parts[2].Queues = s.Parts[2].Queues[:1] },
		func(s *api.State) { s.Parts[2].Queues = append(s.Parts[2].Queues, nil) },
		func(s *api.State) { s.Parts[2].Owners, s.Parts[2].Queues = nil, nil },
		func(s *api.State) {
			s.Parts[2].Owners, s.Parts[2].Queues = append(s.Parts[2].Owners, -1), append(s.Parts[2].Queues, nil)
		},
		func(s *api.State) { s.Parts[1].Owners[1] = -2 },
		func(s *api.State) { s.Parts[1].Owners[1] = 9 },
		func(s *api.State) { s.Parts[1].Owners[1] = 0 },
		func(s *api.State) { s.Parts[1].Owners[1] = 8 },
		func(s *api.State) { s.Parts[1].Owners[1] = 5 },
		func(s *api.State) { s.Parts[2].Owners[1] = 7 },
		func(s *api.State) { s.Parts[1].Owners[1] = math.MaxInt },
		func(s *api.State) { s.Parts[1].Owners[1] = math.MinInt },

		// 2: processes.
		func(s *api.State) { s.Procs[6].State = -1 },
		func(s *api.State) { s.Procs[6].State = 7 },
		func(s *api.State) { s.Procs[6].State = math.MaxInt },
		func(s *api.State) { s.Procs[6].PC = -1 },
		func(s *api.State) { s.Procs[6].PC = 4 },
		func(s *api.State) { s.Procs[5].PC = 4 },
		func(s *api.State) { s.Procs[5].PC = math.MinInt },
		func(s *api.State) { s.Procs[6].PC = math.MaxInt },
		func(s *api.State) { s.Procs[6].Cursor = -1 },
		func(s *api.State) { s.Procs[6].Cursor = 4 },
		func(s *api.State) { s.Procs[5].Cursor = 4 },
		func(s *api.State) { s.Procs[6].Lanes = s.Procs[6].Lanes[:3] },
		func(s *api.State) { s.Procs[6].Lanes = append(s.Procs[6].Lanes, api.Lane{}) },
		func(s *api.State) { s.Procs[6].Lanes = nil },
		func(s *api.State) { s.Procs[1].Lanes[0].Values = []int64{1, 2, 3} },
		func(s *api.State) { s.Procs[1].Lanes[1].Values = []int64{1, 2, 3} },
		func(s *api.State) { s.Procs[6].Lanes[3].Values = []int64{1, 2, 3} },
		func(s *api.State) { s.Procs[1].Lanes[0].Taken = -1 },
		func(s *api.State) { s.Procs[1].Lanes[0].Taken = 65536 },
		func(s *api.State) { s.Procs[1].Lanes[3].Dropped = -1 },
		func(s *api.State) { s.Procs[1].Lanes[3].Dropped = 65536 },
		func(s *api.State) { s.Procs[1].Lanes[2].Values = []int64{0} },
		func(s *api.State) { s.Procs[1].Lanes[2].Taken = 1 },
		func(s *api.State) { s.Procs[1].Lanes[2].Dropped = 1 },
		func(s *api.State) { s.Procs[7].Lanes[1].Dropped = 1 },
		func(s *api.State) { s.Procs[8].Lanes[1].Values = []int64{0} },
		func(s *api.State) { s.Procs[0].Lanes[2].Taken = 1 },
		func(s *api.State) { s.Procs[6].Timer = -1 },
		func(s *api.State) { s.Procs[6].Timer = 101 + 1<<40 },
		func(s *api.State) { s.Procs[6].Timer = math.MaxInt64 },
		func(s *api.State) { s.Procs[6].Timer = math.MinInt64 },
		func(s *api.State) { s.Procs[1].Wake = 101 + 1<<40 },
		func(s *api.State) { s.Procs[1].Wake = -1 },
		func(s *api.State) { s.Procs[6].Wake = -1 },
		func(s *api.State) { s.Procs[1].Wake = 0 },
		func(s *api.State) { s.Procs[6].Wake = 1 },
		func(s *api.State) { s.Procs[0].Wake = 1 },
		func(s *api.State) { s.Procs[3].Wake = 1 },
		func(s *api.State) { s.Procs[5].Wake = 1 },
		func(s *api.State) { s.Procs[5].Timer = 1 },
		func(s *api.State) { s.Procs[7].Timer = 200 },
		func(s *api.State) { s.Procs[7].Fired = true },
		func(s *api.State) { s.Procs[5].Fired = true },
		func(s *api.State) { s.Parts[1].Owners[0] = 5 },
		func(s *api.State) { s.Procs[6].State, s.Procs[6].Fired, s.Procs[6].Timer = api.Exited, false, 0 },

		// 3: who waits for a lock.
		func(s *api.State) { s.Parts[1].Queues[0] = nil },
		func(s *api.State) { s.Parts[1].Queues[0] = []int{2, 2} },
		func(s *api.State) { s.Parts[1].Queues[0] = []int{2, 9} },
		func(s *api.State) { s.Parts[1].Queues[0] = []int{2, -1} },
		func(s *api.State) { s.Parts[1].Queues[0] = []int{2, math.MaxInt} },
		func(s *api.State) { s.Parts[1].Queues[0] = []int{2, math.MinInt} },
		func(s *api.State) { s.Parts[1].Queues[0] = []int{4, 2} },
		func(s *api.State) { s.Parts[1].Queues[0] = []int{2, 5} },
		func(s *api.State) { s.Parts[1].Queues[0] = []int{2, 6} },
		func(s *api.State) { s.Parts[1].Queues[0] = []int{2, 0} },
		func(s *api.State) { s.Parts[1].Queues[0] = []int{2, 3} },
		func(s *api.State) { s.Parts[1].Queues[1] = []int{4} },
		func(s *api.State) { s.Parts[1].Queues[1], s.Parts[1].Owners[1] = []int{2}, 6 },
		func(s *api.State) {
			s.Parts[1].Queues, s.Parts[1].Owners[1] = [][]int{nil, {2}}, 6
		},
		func(s *api.State) { s.Parts[2].Queues[0], s.Parts[2].Owners[0] = []int{2}, 8 },
		func(s *api.State) {
			s.Parts[2].Queues[0], s.Parts[2].Owners[0], s.Parts[1].Queues[0] = []int{2}, 8, nil
		},
		func(s *api.State) { s.Parts[1].Owners[0] = -1 },
		func(s *api.State) { s.Parts[1].Owners[0] = 2 },
		func(s *api.State) { s.Procs[2].State = api.Ready },
		func(s *api.State) { s.Procs[2].State = api.Killed },
		func(s *api.State) { s.Procs[2].State, s.Procs[2].Fired = api.Exited, false },
		func(s *api.State) { s.Procs[2].State, s.Procs[2].PC, s.Procs[2].Wake = api.Asleep, 4, 200 },
		func(s *api.State) {
			s.Procs[2].State, s.Procs[2].PC, s.Procs[2].Fired = api.WaitRecv, 3, false
		},
		func(s *api.State) { s.Procs[2].PC = 1 },
		func(s *api.State) { s.Procs[2].PC = 2 },
		func(s *api.State) { s.Procs[2].PC = 6 },
		func(s *api.State) { s.Procs[4].State, s.Procs[4].PC = api.WaitLock, 2 },
		func(s *api.State) { s.Procs[4].State, s.Procs[4].PC = api.WaitLock, 1 },
		func(s *api.State) { s.Procs[8].State, s.Procs[8].PC = api.WaitLock, 1 },
		func(s *api.State) { s.Procs[8].State, s.Procs[8].PC = api.WaitLock, 2 },
		func(s *api.State) {
			s.Procs[8].State, s.Procs[8].PC = api.WaitLock, 1
			s.Parts[1].Queues[0] = []int{2, 8}
		},

		// 3: who waits to send.
		func(s *api.State) { s.Procs[1].Lanes[1].Waiters = nil },
		func(s *api.State) { s.Procs[1].Lanes[1].Waiters = []api.Waiter{who(3, 30), who(3, 30)} },
		func(s *api.State) { s.Procs[1].Lanes[1].Waiters = []api.Waiter{who(3, 30), who(9, 30)} },
		func(s *api.State) { s.Procs[1].Lanes[1].Waiters = []api.Waiter{who(3, 30), who(-1, 30)} },
		func(s *api.State) { s.Procs[1].Lanes[1].Waiters = []api.Waiter{who(math.MinInt, 30), who(3, 30)} },
		func(s *api.State) { s.Procs[1].Lanes[1].Waiters = []api.Waiter{who(math.MaxInt, 30), who(3, 30)} },
		func(s *api.State) { s.Procs[1].Lanes[1].Waiters = []api.Waiter{who(3, 30), who(6, 0)} },
		func(s *api.State) { s.Procs[1].Lanes[1].Waiters = []api.Waiter{who(3, 30), who(0, 0)} },
		func(s *api.State) { s.Procs[1].Lanes[1].Waiters = []api.Waiter{who(3, 30), who(5, 0)} },
		func(s *api.State) { s.Procs[1].Lanes[1].Waiters = []api.Waiter{who(3, 30), who(1, 0)} },
		func(s *api.State) { s.Procs[1].Lanes[1].Waiters[0].Value = 31 },
		func(s *api.State) { s.Procs[1].Lanes[1].Waiters[0].Proc = 4 },
		func(s *api.State) { s.Procs[1].Lanes[1].Values = []int64{2} },
		func(s *api.State) { s.Procs[1].Lanes[1].Values = nil },
		func(s *api.State) { s.Procs[1].Lanes[3].Waiters = s.Procs[1].Lanes[1].Waiters },
		func(s *api.State) {
			s.Procs[1].Lanes[3].Waiters, s.Procs[1].Lanes[1].Waiters = s.Procs[1].Lanes[1].Waiters, nil
		},
		func(s *api.State) {
			s.Procs[1].Lanes[0].Values = []int64{1, 2}
			s.Procs[1].Lanes[0].Waiters, s.Procs[1].Lanes[1].Waiters = s.Procs[1].Lanes[1].Waiters, nil
		},
		func(s *api.State) {
			s.Procs[6].Lanes[1] = s.Procs[1].Lanes[1]
		},
		func(s *api.State) {
			s.Procs[6].Lanes[1], s.Procs[1].Lanes[1] = s.Procs[1].Lanes[1], api.Lane{}
		},
		func(s *api.State) { s.Procs[3].Regs[1] = 6 },
		func(s *api.State) { s.Procs[3].Regs[1] = 0 },
		func(s *api.State) { s.Procs[3].Regs[1] = 9 },
		func(s *api.State) { s.Procs[3].Regs[1] = -1 },
		func(s *api.State) { s.Procs[3].Regs[1] = math.MinInt64 },
		func(s *api.State) { s.Procs[3].Regs[1] = 1 << 32 },
		func(s *api.State) { s.Procs[3].Regs[2] = 29 },
		func(s *api.State) { s.Procs[3].State = api.Ready },
		func(s *api.State) { s.Procs[3].State = api.Killed },
		func(s *api.State) { s.Procs[3].State, s.Procs[3].PC = api.WaitRecv, 3 },
		func(s *api.State) { s.Procs[3].PC = 1 },
		func(s *api.State) { s.Procs[3].PC = 2 },
		func(s *api.State) { s.Procs[3].PC = 3 },
		func(s *api.State) { s.Procs[3].PC = 4 },
		func(s *api.State) {
			s.Procs[1].State, s.Procs[1].Wake, s.Procs[1].Timer, s.Procs[1].Fired = api.Killed, 0, 0, false
		},
		func(s *api.State) { s.Procs[4].State, s.Procs[4].PC = api.WaitSend, 3 },
		func(s *api.State) { s.Procs[4].State, s.Procs[4].PC = api.WaitSend, 1 },
		func(s *api.State) { s.Procs[6].State = api.WaitSend },
		func(s *api.State) { s.Procs[6].State, s.Procs[6].PC, s.Procs[6].Regs[1] = api.WaitSend, 2, 1 },
		func(s *api.State) {
			s.Procs[4].State, s.Procs[4].PC, s.Procs[4].Regs[1] = api.WaitSend, 3, 5
			s.Procs[5].Lanes[1].Waiters = []api.Waiter{who(4, 0)}
		},
		func(s *api.State) {
			s.Procs[0].Lanes[0].Waiters = []api.Waiter{who(3, 30)}
		},

		// 3: who waits to receive, and who sleeps.
		func(s *api.State) { s.Procs[0].PC = 1 },
		func(s *api.State) { s.Procs[0].PC = 2 },
		func(s *api.State) { s.Procs[0].Fired = true },
		func(s *api.State) { s.Procs[4].Fired = true },
		func(s *api.State) { s.Procs[0].Lanes[0].Values = []int64{0} },
		func(s *api.State) { s.Procs[4].Lanes[1].Values = []int64{0} },
		func(s *api.State) { s.Procs[4].Lanes[3].Values = []int64{0} },
		func(s *api.State) { s.Procs[6].State = api.WaitRecv },
		func(s *api.State) { s.Procs[6].State, s.Procs[6].Fired = api.WaitRecv, false },
		func(s *api.State) { s.Procs[1].PC = 1 },
		func(s *api.State) { s.Procs[1].PC = 3 },
		func(s *api.State) { s.Procs[1].PC = 4 },
		func(s *api.State) { s.Procs[6].State, s.Procs[6].Wake = api.Asleep, 200 },
		func(s *api.State) { s.Procs[6].State, s.Procs[6].Wake, s.Procs[6].PC = api.Asleep, 200, 0 },
	}
	return list
}

func TestMayBars(t *testing.T) {
	c, s := stood()
	for i, change := range barred() {
		d := clone(s)
		change(&d)
		if e := May(c, d); e != api.ErrForm {
			t.Errorf("number %d: %d", i, e)
		}
		asks(t, c, d, api.ErrForm)
	}
}

func TestMayOfNothing(t *testing.T) {
	c, _ := stood()
	asks(t, c, api.State{}, api.ErrForm)
	asks(t, api.Config{}, api.State{}, api.ErrArg)
}

// A lane to a partition beside, and one of a waiter of another partition.
func TestMayOfWaitersOfOtherPartitions(t *testing.T) {
	c := three(of(0, "send r1 r2 r3"), of(1, "jump 0"), of(0, "jump 0"))
	waits := func(q, lane int) api.State {
		return at(c, func(s *api.State) {
			s.Procs[0].State, s.Procs[0].Regs[2] = api.WaitSend, int64(q)
			s.Procs[q].Lanes[lane] = api.Lane{Values: []int64{1}, Waiters: []api.Waiter{who(0, 0)}}
		})
	}
	asks(t, c, waits(2, 0), api.OK)
	asks(t, c, waits(0, 0), api.OK)
	asks(t, c, waits(1, 0), api.ErrForm)
	asks(t, c, waits(1, 1), api.ErrForm)
	asks(t, c, waits(2, 3), api.ErrForm)
}

// A log without room is full from the beginning on.
func TestMayOfNoLog(t *testing.T) {
	c := changed(one(of(0)), func(c *api.Config) { c.Log = 0 })
	lost := func(n int, log ...api.Entry) api.State {
		return at(c, func(s *api.State) { s.Tick, s.Parts[0].Lost, s.Parts[0].Log = 9, n, log })
	}
	asks(t, c, lost(0), api.OK)
	asks(t, c, lost(1), api.OK)
	asks(t, c, lost(65535), api.OK)
	asks(t, c, lost(65536), api.ErrForm)
	asks(t, c, lost(0, entry(1, 0, 0)), api.ErrForm)
}

// At the tick 0 nothing can have been written.
func TestMayAtTheFirstTick(t *testing.T) {
	c := one(of(0, "sleep r0"))
	asks(t, c, at(c, func(s *api.State) { s.Parts[0].Log = []api.Entry{entry(0, 0, 0)} }), api.ErrForm)
	for _, tick := range []int64{-1, -2, -1 << 40, math.MinInt64} {
		asks(t, c, at(c, func(s *api.State) { s.Tick = tick }), api.ErrForm)
	}
	for _, due := range []int64{1, 5, 1 << 40} {
		asks(t, c, at(c, func(s *api.State) { s.Procs[0].Timer = due }), api.OK)
		asks(t, c, at(c, func(s *api.State) { s.Procs[0].State, s.Procs[0].Wake = api.Asleep, due }), api.OK)
	}
	asks(t, c, at(c, func(s *api.State) { s.Procs[0].Timer = 1<<40 + 1 }), api.ErrForm)
	asks(t, c, at(c, func(s *api.State) { s.Procs[0].State, s.Procs[0].Wake = api.Asleep, 1<<40+1 }), api.ErrForm)
}

func TestMayAtTheLastTick(t *testing.T) {
	c := one(of(0, "sleep r0"))
	for _, x := range []struct {
		tick, timer int64
		e           api.Errno
	}{
		{1 << 62, 1<<62 + 1<<40, api.OK}, {1 << 62, 1<<62 + 1<<40 + 1, api.ErrForm}, {1<<62 - 1, 1<<62 + 1<<40, api.ErrForm},
		{1<<62 - 1, 1<<62 + 1<<40 - 1, api.OK}, {1<<62 + 1, 0, api.ErrForm}, {1 << 62, math.MaxInt64, api.ErrForm},
	} {
		asks(t, c, at(c, func(s *api.State) { s.Tick, s.Procs[0].Timer = x.tick, x.timer }), x.e)
		asks(t, c, at(c, func(s *api.State) {
			s.Tick, s.Procs[0].Wake, s.Procs[0].State = x.tick, max(x.timer, 1), api.Asleep
		}), x.e)
	}
}

// near changes a number a little, or greatly.
func near[T int | int64](c *chance, v *T) {
	switch c.next(8) {
	case 0:
		*v = T(c.next(9))
	case 1:
		*v = []T{-1, 0, 1, 65535, 65536, 1<<62 + 1, -1 << 63, 1<<63 - 1}[c.next(8)]
	case 2, 3, 4:
		*v++
	default:
		*v--
	}
}

// row changes a list: an element less, or more, or twice.
func row[T any](c *chance, list *[]T) {
	own := slices.Clone(*list)
	switch n := len(own); {
	case n == 0 || c.next(4) == 0:
		var zero T
		own = append(own, zero)
	case c.next(2) == 0:
		own = own[:n-1]
	default:
		own = append(own, own[c.next(n)])
	}
	*list = own
}

// spoil changes something of a state.
func (c *chance) spoil(s *api.State) {
	if len(s.Procs) == 0 || c.next(40) == 0 {
		[]func(){func() { near(c, &s.Tick) }, func() { row(c, &s.Parts) }, func() { row(c, &s.Procs) }}[c.next(3)]()
		return
	}
	if len(s.Parts) > 0 && c.next(3) == 0 {
		c.spoilPart(&s.Parts[c.next(len(s.Parts))], len(s.Procs))
		return
	}
	c.spoilProc(&s.Procs[c.next(len(s.Procs))], len(s.Procs))
}

func (c *chance) spoilPart(p *api.Part, procs int) {
	switch c.next(9) {
	case 0:
		near(c, &p.Cursor)
	case 1:
		near(c, &p.Lost)
	case 2:
		near(c, &p.Forbidden)
	case 3:
		row(c, &p.Log)
	case 4:
		if n := len(p.Log); n > 0 {
			near(c, &p.Log[c.next(n)].Tick)
			near(c, &p.Log[c.next(n)].Proc)
		}
	case 5:
		row(c, &p.Owners)
	case 6:
		if n := len(p.Owners); n > 0 {
			p.Owners[c.next(n)] = c.next(procs+2) - 1
		}
	case 7:
		row(c, &p.Queues)
	default:
		if n := len(p.Queues); n > 0 {
			row(c, &p.Queues[c.next(n)])
			if q := p.Queues[c.next(n)]; len(q) > 0 {
				q[c.next(len(q))] = c.next(procs)
			}
		}
	}
}

func (c *chance) spoilProc(p *api.Process, procs int) {
	switch c.next(12) {
	case 0, 1:
		p.State = c.next(8)
	case 2:
		near(c, &p.PC)
	case 3:
		near(c, &p.Regs[c.next(8)])
	case 4:
		near(c, &p.Cursor)
	case 5:
		near(c, &p.Timer)
	case 6:
		near(c, &p.Wake)
	case 7:
		p.Fired = !p.Fired
	case 8:
		row(c, &p.Lanes)
	default:
		if n := len(p.Lanes); n > 0 {
			c.spoilLane(&p.Lanes[c.next(n)], procs)
		}
	}
}

func (c *chance) spoilLane(l *api.Lane, procs int) {
	switch c.next(5) {
	case 0:
		row(c, &l.Values)
	case 1:
		row(c, &l.Waiters)
	case 2:
		near(c, &l.Taken)
	case 3:
		near(c, &l.Dropped)
	default:
		if n := len(l.Waiters); n > 0 {
			l.Waiters[c.next(n)] = who(c.next(procs), int64(c.next(9))-1)
		}
	}
}

// May answers as the chapter says it of states spoilt by chance; and a machine that is laid of such a one as may be goes on as the plain one.
func TestMayOfSpoiltStates(t *testing.T) {
	c := chance(21)
	taken, refused := 0, 0
	for range 2500 {
		x := start(t, c.config())
		for range 10 + c.next(50) {
			x.some(&c)
		}
		for range 12 {
			s := clone(x.p.s)
			for range 1 + c.next(3) {
				c.spoil(&s)
			}
			want := plainMay(x.p.c, s)
			asks(t, x.p.c, s, want)
			if want != api.OK {
				refused++
				continue
			}
			taken++
			if s.Tick > 1<<62-20 {
				continue
			}
			y := startAt(t, x.p.c, s)
			for range 10 {
				y.some(&c)
			}
		}
	}
	if taken < 2000 || refused < 2000 {
		t.Errorf("%d were taken, %d refused", taken, refused)
	}
}

// A config of other sizes than the state's.
func TestMayOfAnotherConfig(t *testing.T) {
	c := chance(22)
	for range 2000 {
		a, b := c.config(), c.config()
		x := start(t, a)
		for range c.next(20) {
			x.some(&c)
		}
		asks(t, b, x.p.s, plainMay(b, x.p.s))
	}
}
