package delay

import (
	"firebreak/api"
	"firebreak/conf"
	"firebreak/machine"
)

// never is a time that has not come, and none the number of no lock.
const (
	never = -1
	none  = -1
)

// watch is a machine that is watched, and what was seen of it so far.
type watch struct {
	config   api.Config
	machine  *machine.Machine
	time     int64 // how many ticks there were
	lanes    map[spot]sight
	waits    []claim // by process
	messages []Message
	grants   []Grant
}

// spot is where messages stand.
type spot struct{ proc, lane int }

// sight is what was seen of a lane at the border ahead.
type sight struct {
	taken int
	open  []int // by place, which of the messages that are told stand there: their times of Out have not come
}

// claim is the lock for which a process waited at the border ahead, and which of the grants that is.
type claim struct{ lock, grant int }

// Watch does steps, and tells all messages and waits that are seen on the way.
func Watch(c api.Config, l []api.Step) ([]Message, []Grant, api.Errno) {
	if e, _ := conf.May(c); e != api.OK {
		return nil, nil, e
	}
	if len(l) > api.MaxSteps {
		return nil, nil, api.ErrMany
	}
	w := start(c)
	w.border()
	for _, s := range l {
		w.do(s)
	}
	return w.messages, w.grants, api.OK
}

// start makes a machine of a config that may be, of which nothing was seen.
func start(c api.Config) *watch {
	w := &watch{config: c, lanes: map[spot]sight{}}
	for range c.Procs {
		w.waits = append(w.waits, claim{none, none})
	}
	// What is logged changes nothing of messages and locks, and would have to be told anew at each border.
	c.Log = 0
	w.machine, _ = machine.New(c)
	return w
}

// do does a step, and looks at each border on the way.
func (w *watch) do(s api.Step) {
	switch s.Kind {
	case api.StepTick:
		w.slots(s.N)
	case api.StepInject:
		w.machine.Inject(s.N, s.V)
		w.border()
	case api.StepKill:
		w.machine.Kill(s.N)
		w.border()
	}
}

// slots does so many of them, or none, if there would be more than may be. (What is left is held against n: a sum with it may wrap round.)
func (w *watch) slots(n int) {
	if int64(n) > api.MaxTicks-w.time {
		return
	}
	for range n {
		w.machine.Tick()
		w.time++
		w.border()
	}
}

// border looks at all lanes and all processes.
func (w *watch) border() {
	for p, now := range w.machine.State().Procs {
		for i, l := range now.Lanes {
			w.lane(spot{p, i}, l)
		}
		w.wait(p, now)
	}
}

// lane tells the messages that are new in a lane, and when those were taken that were told ahead.
func (w *watch) lane(at spot, now api.Lane) {
	ahead := w.lanes[at]
	gone := min(now.Taken-ahead.taken, len(ahead.open))
	for _, i := range ahead.open[:gone] {
		w.messages[i].Out = w.time
	}
	open := ahead.open[gone:len(ahead.open):len(ahead.open)]
	// Of a lane whose count stays as it is nobody knows any more which messages are new.
	if now.Taken < api.MaxCount {
		for place := len(open); place < len(now.Values); place++ {
			open = append(open, len(w.messages))
			w.messages = append(w.messages, Message{at.proc, at.lane, place, w.time, never})
		}
	}
	w.lanes[at] = sight{now.Taken, open}
}

// wait tells the lock for which a process waits since the border ahead, and when it had the one for which it waited there.
func (w *watch) wait(p int, now api.Process) {
	lock, ahead := w.awaited(p, now), w.waits[p]
	if lock == ahead.lock {
		return
	}
	if ahead.lock != none {
		w.grants[ahead.grant].Had = w.time
	}
	w.waits[p] = claim{lock, len(w.grants)}
	if lock != none {
		w.grants = append(w.grants, Grant{p, lock, w.time, never})
	}
}

// awaited is the lock for which a process waits: that of the instruction at which it stands.
func (w *watch) awaited(p int, now api.Process) int {
	if now.State != api.WaitLock {
		return none
	}
	return int(w.config.Procs[p].Code[now.PC].Imm)
}
