package machine

import (
	"slices"

	"firebreak/api"
	"firebreak/conf"
	"firebreak/locks"
	"firebreak/post"
	"firebreak/table"
)

// lastTick is the most ticks with which a machine may be laid.
const lastTick = 1 << 62

// asked is a config that may be, and a state of which it is asked whether a machine of it may stand so.
type asked struct {
	c     api.Config
	s     api.State
	table *table.Table
}

// May tells whether a machine may stand so.
func May(c api.Config, s api.State) api.Errno {
	if e, _ := conf.May(c); e != api.OK {
		return e
	}
	a := asked{c: c, s: s}
	a.table, _, _ = table.New(c.Labels)
	if !a.stands() {
		return api.ErrForm
	}
	return api.OK
}

// stands tells whether all of it may stand so. Who waits is asked last: by then all that one waits for is known to be there.
func (a asked) stands() bool {
	if a.s.Tick < 0 || a.s.Tick > lastTick || len(a.s.Parts) != len(a.c.Labels) || len(a.s.Procs) != len(a.c.Procs) {
		return false
	}
	return each(len(a.s.Parts), a.partStands) && each(len(a.s.Procs), a.procStands) &&
		each(len(a.s.Parts), a.queuesStand) && each(len(a.s.Procs), a.waitersStand) && each(len(a.s.Procs), a.waits)
}

// partStands tells whether a partition may stand so, but for who waits.
func (a asked) partStands(i int) bool {
	own := a.s.Parts[i]
	if own.Cursor < 0 || own.Cursor > 0 && own.Cursor >= a.count(i) {
		return false
	}
	if !counts(own.Lost) || !counts(own.Forbidden) || own.Lost > 0 && len(own.Log) < a.c.Log {
		return false
	}
	if len(own.Owners) != a.c.Locks || !a.logStands(i) {
		return false
	}
	return !slices.ContainsFunc(own.Owners, func(p int) bool { return p != nobody && !a.lives(p, i) })
}

// logStands tells whether a partition's log may stand so.
func (a asked) logStands(i int) bool {
	least := int64(0)
	for _, entry := range a.s.Parts[i].Log {
		if entry.Tick < least || entry.Tick >= a.s.Tick || !a.of(entry.Proc, i) {
			return false
		}
		least = entry.Tick
	}
	return len(a.s.Parts[i].Log) <= a.c.Log
}

// procStands tells whether a process may stand so, but for who waits.
func (a asked) procStands(i int) bool {
	p := a.s.Procs[i]
	if p.State < api.Ready || p.State > api.Killed || !a.placeStands(i) {
		return false
	}
	latest := a.s.Tick + api.MaxTimer
	if p.Timer < 0 || p.Timer > latest || p.Wake < 0 || p.Wake > latest || (p.Wake > 0) != (p.State == api.Asleep) {
		return false
	}
	return !(ended(p.State) && (p.Timer > 0 || p.Fired)) && a.lanesStand(i)
}

// placeStands tells whether a process's program counter may stand so: of one that waits it is at the instruction that lets it.
func (a asked) placeStands(i int) bool {
	code, pc := a.c.Procs[i].Code, a.s.Procs[i].PC
	if pc < 0 || pc > len(code) {
		return false
	}
	op, waits := waitsAt(a.s.Procs[i].State)
	return !waits || pc < len(code) && code[pc].Op == op
}

// waitsAt is the instruction at which a process waits in that state; false, if it doesn't wait.
func waitsAt(state int) (int, bool) {
	switch state {
	case api.WaitRecv:
		return api.OpRecv, true
	case api.WaitSend:
		return api.OpSend, true
	case api.WaitLock:
		return api.OpLock, true
	case api.Asleep:
		return api.OpSleep, true
	}
	return 0, false
}

// lanesStand tells whether a process's lanes may stand so, but for who waits there.
func (a asked) lanesStand(i int) bool {
	p := a.s.Procs[i]
	if len(p.Lanes) != len(a.c.Labels)+1 {
		return false
	}
	if _, e := post.Lay(a.c.Lane, p.Lanes, p.Cursor); e != api.OK {
		return false
	}
	return each(len(a.c.Labels), func(from int) bool {
		return a.table.Flows(from, a.c.Procs[i].Part) || untouched(p.Lanes[from])
	})
}

// queuesStand tells whether just those stand in a partition's queues who wait for one of its locks. (That there are as many queues as owners, and nobody stands there twice, locks.Lay asks; for which lock one waits, waits does.)
func (a asked) queuesStand(i int) bool {
	own := a.s.Parts[i]
	if _, e := locks.Lay(own.Owners, own.Queues); e != api.OK {
		return false
	}
	return !slices.ContainsFunc(slices.Concat(own.Queues...), func(p int) bool { return !a.is(p, i, api.WaitLock) })
}

// waitersStand tells whether just those wait in a process's lanes who send to it. (That nobody waits there twice, and in full lanes alone, post.Lay has asked.)
func (a asked) waitersStand(i int) bool {
	part := a.c.Procs[i].Part
	for lane, l := range a.s.Procs[i].Lanes {
		if len(l.Waiters) > 0 && (lane != part || ended(a.s.Procs[i].State)) {
			return false
		}
		for _, w := range l.Waiters {
			if !a.is(w.Proc, part, api.WaitSend) {
				return false
			}
			x, regs := a.at(w.Proc), a.s.Procs[w.Proc].Regs
			if regs[x.B] != int64(i) || regs[x.C] != w.Value {
				return false
			}
		}
	}
	return true
}

// waits tells whether a process that waits stands where it waits, and has nothing that it needn't wait for.
func (a asked) waits(i int) bool {
	p := a.s.Procs[i]
	switch p.State {
	case api.WaitRecv:
		return !p.Fired && !slices.ContainsFunc(p.Lanes, holdsSome)
	case api.WaitSend:
		return a.waitsFor(i, p.Regs[a.at(i).B])
	case api.WaitLock:
		return slices.Contains(a.s.Parts[a.c.Procs[i].Part].Queues[a.at(i).Imm], i)
	}
	return true
}

// waitsFor tells whether a process waits to send to that one of its partition. (With which message, waitersStand has asked.)
func (a asked) waitsFor(i int, to int64) bool {
	if to < 0 || to >= int64(len(a.s.Procs)) {
		return false
	}
	lane := a.s.Procs[to].Lanes[a.c.Procs[i].Part]
	return slices.ContainsFunc(lane.Waiters, func(w api.Waiter) bool { return w.Proc == i })
}

// at is the instruction at which a process waits.
func (a asked) at(p int) api.Ins { return a.c.Procs[p].Code[a.s.Procs[p].PC] }

// is tells whether a number is that of a process of a partition, in that state.
func (a asked) is(p, part, state int) bool { return a.of(p, part) && a.s.Procs[p].State == state }

// lives tells whether a number is that of a process of a partition, and it lives.
func (a asked) lives(p, part int) bool { return a.of(p, part) && !ended(a.s.Procs[p].State) }

// of tells whether a number is that of a process of a partition.
func (a asked) of(p, part int) bool {
	return p >= 0 && p < len(a.c.Procs) && a.c.Procs[p].Part == part
}

// count is how many processes a partition has.
func (a asked) count(part int) int {
	n := 0
	for _, p := range a.c.Procs {
		if p.Part == part {
			n++
		}
	}
	return n
}

// each tells whether something is so of all numbers from 0 on and below n.
func each(n int, so func(int) bool) bool {
	for i := range n {
		if !so(i) {
			return false
		}
	}
	return true
}

// counts tells whether a number may be a count.
func counts(n int) bool { return n >= 0 && n <= api.MaxCount }

// holdsSome tells whether a lane has a message.
func holdsSome(l api.Lane) bool { return len(l.Values) > 0 }

// untouched tells whether nothing ever came into a lane.
func untouched(l api.Lane) bool { return !holdsSome(l) && l.Taken == 0 && l.Dropped == 0 }
