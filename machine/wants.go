package machine

import (
	"slices"

	"firebreak/api"
	"firebreak/cpu"
)

// The replies to a send. Whoever sends upward is told sent, whatever happens there.
const (
	sent   = 0
	absent = 1
	gone   = 2
)

// Where a message comes from, if there is none: the timer fired, or nothing is there.
const (
	fromNone  = -1
	fromTimer = -2
)

// A wheel tells of one time the lesser number first: by process, and of one process a sleep behind a timer.
const perProcess = 2

// timer and sleep are the numbers by which a process's timer and its sleep stand in its partition's wheel.
func (p *process) timer() int { return perProcess * p.number }
func (p *process) sleep() int { return perProcess*p.number + 1 }

// wake tells those of a partition's processes whose time has come.
func (m *Machine) wake(own *part) {
	for _, id := range own.wheel.Pop(m.tick) {
		p := m.procs[id/perProcess]
		if id == p.sleep() {
			p.goOn()
			continue
		}
		p.fired = true
		p.rouse()
	}
}

// step does one instruction of a process, and what that wants of others.
func (m *Machine) step(p *process) {
	var want cpu.Want
	p.core, want = cpu.Step(p.core, p.code, m.tick, p.number)
	switch want.Kind {
	case cpu.WantExit:
		m.end(p, api.Exited)
	case cpu.WantSend:
		m.send(p, want.To, want.Value)
	case cpu.WantRecv, cpu.WantTry:
		m.take(p, want.Kind == cpu.WantRecv)
	case cpu.WantTimer:
		m.setTimer(p, want.Value)
	case cpu.WantSleep:
		p.state = api.Asleep
		m.setDue(p, p.sleep(), max(want.Value, 1))
	case cpu.WantLock:
		p.lock(int(want.To))
	case cpu.WantUnlock:
		m.unlock(p, int(want.To))
	case cpu.WantOut:
		m.write(p, want.Value)
	}
}

// send sends a message to a process, whatever its number.
func (m *Machine) send(p *process, to, v int64) {
	if to < 0 || to >= int64(len(m.procs)) {
		p.told(absent)
		return
	}
	q := m.procs[to]
	switch {
	case !m.table.Flows(p.home.number, q.home.number):
		p.home.forbidden = more(p.home.forbidden)
		p.told(sent)
	case p.home == q.home:
		p.sendWithin(q, v)
	default:
		p.sendUp(q, v)
	}
}

// sendWithin sends to one of the own partition, which may be waited for.
func (p *process) sendWithin(q *process, v int64) {
	if ended(q.state) {
		p.told(gone)
		return
	}
	lane := p.home.number
	if q.put(lane, v) == api.ErrFull {
		p.state = api.WaitSend
		q.post.Wait(lane, p.number, v)
		return
	}
	p.told(sent)
}

// sendUp sends to one of another partition: nothing that happens there is seen here.
func (p *process) sendUp(q *process, v int64) {
	lane := p.home.number
	if ended(q.state) || q.put(lane, v) == api.ErrFull {
		q.post.Drop(lane)
	}
	p.told(sent)
}

// put lays a message into one of a process's lanes, which wakes it, if it waits to receive.
func (p *process) put(lane int, v int64) api.Errno {
	e := p.post.Put(lane, v)
	if e == api.OK {
		p.rouse()
	}
	return e
}

// rouse lets a process that waits to receive look again.
func (p *process) rouse() {
	if p.state == api.WaitRecv {
		p.state = api.Ready
	}
}

// take takes a message, if there is one; else the process waits, if it may.
func (m *Machine) take(p *process, waits bool) {
	v, lane, in, let, e := p.post.Take()
	switch {
	case e == api.OK:
		p.took(v, int64(lane))
		if let {
			m.procs[in.Proc].told(sent)
		}
	case p.fired:
		p.fired = false
		p.took(0, fromTimer)
	case waits:
		p.state = api.WaitRecv
	default:
		p.took(0, fromNone)
	}
}

// setTimer makes a process's timer due so many ticks from now on, or takes it off.
func (m *Machine) setTimer(p *process, ticks int64) {
	p.fired = false
	if ticks <= 0 {
		p.home.wheel.Clear(p.timer())
		return
	}
	m.setDue(p, p.timer(), ticks)
}

// setDue makes a number of a process's due so many ticks from now on.
func (m *Machine) setDue(p *process, id int, ticks int64) {
	p.home.wheel.Set(id, m.tick+min(ticks, api.MaxTimer))
}

// lock takes a lock, or waits for it.
func (p *process) lock(lock int) {
	if had, _ := p.home.locks.Take(lock, p.number); !had {
		p.state = api.WaitLock
		return
	}
	p.goOn()
}

// unlock gives a lock, if the process holds it.
func (m *Machine) unlock(p *process, lock int) {
	// Give would tell the holder of a lock that isn't the process's, too.
	if !slices.Contains(p.home.locks.Holds(p.number), lock) {
		return
	}
	next, _ := p.home.locks.Give(lock, p.number)
	m.given(next)
}

// given lets whoever has a lock now go on behind its Lock.
func (m *Machine) given(p int) {
	if p != nobody {
		m.procs[p].goOn()
	}
}

// write lays an entry into the log of a process's partition, or counts it, if there is no room.
func (m *Machine) write(p *process, v int64) {
	own := p.home
	if len(own.log) >= m.config.Log {
		own.lost = more(own.lost)
		return
	}
	own.log = append(own.log, api.Entry{Tick: m.tick, Proc: p.number, Value: v})
}

// end ends a process. It leaves the lanes for which it waits ahead of all else: it may be one of its own, whose waiters are told that it is gone.
func (m *Machine) end(p *process, state int) {
	p.state, p.fired = state, false
	for _, q := range p.home.procs {
		q.post.Leave(p.number)
	}
	for _, g := range p.home.locks.End(p.number) {
		m.given(g.Proc)
	}
	p.home.wheel.Clear(p.timer())
	p.home.wheel.Clear(p.sleep())
	for _, w := range p.post.End() {
		m.procs[w.Proc].told(gone)
	}
}

// told lets a process go on behind its Send.
func (p *process) told(reply int64) {
	p.state, p.core = api.Ready, cpu.Told(p.core, p.code, reply)
}

// took lets a process go on behind its Recv or Try.
func (p *process) took(v, from int64) { p.core = cpu.Took(p.core, p.code, v, from) }

// goOn lets a process go on behind its Lock or Sleep.
func (p *process) goOn() { p.state, p.core = api.Ready, cpu.Next(p.core) }

// more is the count behind one, which saturates.
func more(n int) int { return min(n+1, api.MaxCount) }
