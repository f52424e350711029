package machine

import (
	"math"
	"slices"
	"strings"
	"testing"

	"firebreak/alu"
	"firebreak/api"
	"firebreak/asm"
	"firebreak/code"
	"firebreak/conf"
	"firebreak/flt"
)

// wild are numbers that are no process's, whatever the machine.
var wild = []int{-1, -2, -32, math.MinInt, math.MinInt + 1, api.MaxProcs, api.MaxProcs + 1, 1 << 31, 1 << 32, 1<<32 + 1, math.MaxInt - 1, math.MaxInt}

// program reads a program's lines.
func program(lines ...string) []api.Ins {
	l, e, line, at := asm.Parse(strings.Join(lines, "\n") + "\n")
	if e != api.OK {
		panic([]any{e, line, at, lines})
	}
	return l
}

// of is a process of a partition with that program.
func of(part int, lines ...string) api.Proc {
	if len(lines) == 0 {
		return api.Proc{Part: part}
	}
	return api.Proc{Part: part, Code: program(lines...)}
}

// one is a machine of one partition, with fuel for one instruction a slot.
func one(procs ...api.Proc) api.Config {
	return api.Config{Labels: []uint64{7}, Table: []int{0}, Fuel: 1, Lane: 1, Locks: 2, Log: 4, Procs: procs}
}

// three is a machine of three partitions, of which the first one flows to all others, and these to nobody else.
func three(procs ...api.Proc) api.Config {
	return api.Config{Labels: []uint64{0, 1, 2}, Table: []int{0, 1, 2}, Fuel: 1, Lane: 1, Locks: 2, Log: 4, Procs: procs}
}

// changed is a config with something changed.
func changed(c api.Config, change func(c *api.Config)) api.Config {
	c = cloneConfig(c)
	change(&c)
	return c
}

// cloneConfig is the same config in other memory.
func cloneConfig(c api.Config) api.Config {
	c.Labels, c.Table, c.Procs = slices.Clone(c.Labels), slices.Clone(c.Table), slices.Clone(c.Procs)
	for i := range c.Procs {
		c.Procs[i].Code = slices.Clone(c.Procs[i].Code)
	}
	return c
}

// cloneLane, clonePart, cloneProcess and clone are the same in other memory.
func cloneLane(l api.Lane) api.Lane {
	l.Values, l.Waiters = slices.Clone(l.Values), slices.Clone(l.Waiters)
	return l
}

func clonePart(p api.Part) api.Part {
	p.Log, p.Owners, p.Queues = slices.Clone(p.Log), slices.Clone(p.Owners), slices.Clone(p.Queues)
	for i := range p.Queues {
		p.Queues[i] = slices.Clone(p.Queues[i])
	}
	return p
}

func cloneProcess(p api.Process) api.Process {
	p.Lanes = slices.Clone(p.Lanes)
	for i := range p.Lanes {
		p.Lanes[i] = cloneLane(p.Lanes[i])
	}
	return p
}

func clone(s api.State) api.State {
	s.Parts, s.Procs = slices.Clone(s.Parts), slices.Clone(s.Procs)
	for i := range s.Parts {
		s.Parts[i] = clonePart(s.Parts[i])
	}
	for i := range s.Procs {
		s.Procs[i] = cloneProcess(s.Procs[i])
	}
	return s
}

// sameConfig, sameLane, samePart, sameProcess and same tell whether two are; lists without elements are all the same.
func sameConfig(a, b api.Config) bool {
	return conf.Skeleton(a, b) && slices.EqualFunc(a.Procs, b.Procs, func(p, q api.Proc) bool { return slices.Equal(p.Code, q.Code) })
}

func sameLane(a, b api.Lane) bool {
	return slices.Equal(a.Values, b.Values) && slices.Equal(a.Waiters, b.Waiters) && a.Taken == b.Taken && a.Dropped == b.Dropped
}

func samePart(a, b api.Part) bool {
	return a.Cursor == b.Cursor && slices.Equal(a.Log, b.Log) && a.Lost == b.Lost && a.Forbidden == b.Forbidden &&
		slices.Equal(a.Owners, b.Owners) && slices.EqualFunc(a.Queues, b.Queues, slices.Equal[[]int])
}

func sameProcess(a, b api.Process) bool {
	return a.State == b.State && a.PC == b.PC && a.Regs == b.Regs && a.Cursor == b.Cursor && a.Timer == b.Timer &&
		a.Fired == b.Fired && a.Wake == b.Wake && slices.EqualFunc(a.Lanes, b.Lanes, sameLane)
}

func same(a, b api.State) bool {
	return a.Tick == b.Tick && slices.EqualFunc(a.Parts, b.Parts, samePart) && slices.EqualFunc(a.Procs, b.Procs, sameProcess)
}

// plain is a machine as the document says it: a state, and what is changed in it.
type plain struct {
	c api.Config
	s api.State
}

// fresh is a plain machine as it is at first.
func fresh(c api.Config) *plain {
	m := &plain{c: cloneConfig(c)}
	for range c.Labels {
		part := api.Part{}
		for range c.Locks {
			part.Owners, part.Queues = append(part.Owners, -1), append(part.Queues, nil)
		}
		m.s.Parts = append(m.s.Parts, part)
	}
	for range c.Procs {
		m.s.Procs = append(m.s.Procs, api.Process{Lanes: make([]api.Lane, len(c.Labels)+1)})
	}
	return m
}

// flows tells whether a partition flows to another one.
func (m *plain) flows(i, j int) bool { return m.c.Labels[i]&^m.c.Labels[j] == 0 }

// members are the numbers of a partition's processes.
func (m *plain) members(part int) []int {
	var out []int
	for p, x := range m.c.Procs {
		if x.Part == part {
			out = append(out, p)
		}
	}
	return out
}

// due is something that is due.
type due struct {
	at      int64
	p, kind int // the kind 0 is a timer, 1 a sleep
}

// Tick does a slot as 'A slot' says it.
func (m *plain) Tick() int {
	i := m.c.Table[m.s.Tick%int64(len(m.c.Table))]
	own := m.members(i)
	var list []due
	for _, p := range own {
		if x := m.s.Procs[p]; x.Timer > 0 && x.Timer <= m.s.Tick {
			list = append(list, due{x.Timer, p, 0})
		}
		if x := m.s.Procs[p]; x.Wake > 0 && x.Wake <= m.s.Tick {
			list = append(list, due{x.Wake, p, 1})
		}
	}
	slices.SortStableFunc(list, func(a, b due) int { return int(min(max(a.at-b.at, -1), 1)) })
	for _, d := range list {
		m.ring(d)
	}
	for range m.c.Fuel {
		at := -1
		for k := range own {
			if j := (m.s.Parts[i].Cursor + k) % len(own); m.s.Procs[own[j]].State == api.Ready {
				at = j
				break
			}
		}
		if at < 0 {
			break
		}
		m.do(own[at])
		m.s.Parts[i].Cursor = at + 1
		if at+1 == len(own) {
			m.s.Parts[i].Cursor = 0
		}
	}
	m.s.Tick++
	return i
}

func (m *plain) ring(d due) {
	x := &m.s.Procs[d.p]
	if d.kind == 1 {
		x.Wake, x.State = 0, api.Ready
		x.PC++
		return
	}
	x.Timer, x.Fired = 0, true
	if x.State == api.WaitRecv {
		x.State = api.Ready
	}
}

// Inject and Kill as the chapter says them.
func (m *plain) Inject(p int, v int64) api.Errno {
	if p < 0 || p >= len(m.s.Procs) {
		return api.ErrAbsent
	}
	if m.ended(p) {
		return api.ErrDead
	}
	lane := len(m.c.Labels)
	if m.full(p, lane) {
		m.drop(p, lane)
		return api.ErrFull
	}
	m.into(p, lane, v)
	return api.OK
}

func (m *plain) Kill(p int) api.Errno {
	if p < 0 || p >= len(m.s.Procs) {
		return api.ErrAbsent
	}
	if m.ended(p) {
		return api.ErrDead
	}
	m.end(p, api.Killed)
	return api.OK
}

func (m *plain) ended(p int) bool {
	return m.s.Procs[p].State == api.Exited || m.s.Procs[p].State == api.Killed
}

func (m *plain) full(p, lane int) bool { return len(m.s.Procs[p].Lanes[lane].Values) == m.c.Lane }

func (m *plain) drop(p, lane int) { count(&m.s.Procs[p].Lanes[lane].Dropped) }

// count counts one more.
func count(n *int) {
	if *n < api.MaxCount {
		*n++
	}
}

// into: a message goes into a lane.
func (m *plain) into(p, lane int, v int64) {
	x := &m.s.Procs[p]
	x.Lanes[lane].Values = append(x.Lanes[lane].Values, v)
	if x.State == api.WaitRecv {
		x.State = api.Ready
	}
}

// reply lays a reply, and lets the sender go on.
func (m *plain) reply(p int, v int64) {
	x := &m.s.Procs[p]
	x.Regs[m.c.Procs[p].Code[x.PC].A] = v
	x.PC++
	x.State = api.Ready
}

// hand gives a lock.
func (m *plain) hand(part, lock int) {
	own := &m.s.Parts[part]
	if len(own.Queues[lock]) == 0 {
		own.Owners[lock] = -1
		return
	}
	p := own.Queues[lock][0]
	own.Owners[lock], own.Queues[lock] = p, slices.Clone(own.Queues[lock][1:])
	m.s.Procs[p].State = api.Ready
	m.s.Procs[p].PC++
}

// end: a process ends.
func (m *plain) end(p, state int) {
	x, part := &m.s.Procs[p], m.c.Procs[p].Part
	own := &m.s.Parts[part]
	x.State = state
	for lock := range own.Queues {
		own.Queues[lock] = slices.DeleteFunc(slices.Clone(own.Queues[lock]), func(q int) bool { return q == p })
	}
	for q := range m.s.Procs {
		for lane := range m.s.Procs[q].Lanes {
			l := &m.s.Procs[q].Lanes[lane]
			l.Waiters = slices.DeleteFunc(slices.Clone(l.Waiters), func(w api.Waiter) bool { return w.Proc == p })
		}
	}
	for lock := range own.Owners {
		if own.Owners[lock] == p {
			m.hand(part, lock)
		}
	}
	x.Timer, x.Wake, x.Fired = 0, 0, false
	for lane := range x.Lanes {
		for _, w := range x.Lanes[lane].Waiters {
			m.reply(w.Proc, 2)
		}
		x.Lanes[lane].Waiters = nil
	}
}

// do does one instruction, as the table of 'A process' says it.
func (m *plain) do(p int) {
	x, l := &m.s.Procs[p], m.c.Procs[p].Code
	if x.PC == len(l) {
		m.end(p, api.Exited)
		return
	}
	in := l[x.PC]
	r := x.Regs
	goes := true
	switch in.Op {
	case api.OpExit:
		m.end(p, api.Exited)
		goes = false
	case api.OpSet:
		x.Regs[in.A] = in.Imm
	case api.OpMove:
		x.Regs[in.A] = r[in.B]
	case api.OpJump:
		x.PC, goes = int(in.Imm), false
	case api.OpIf:
		if r[in.A] != 0 {
			x.PC, goes = int(in.Imm), false
		}
	case api.OpSend:
		m.send(p, r[in.B], r[in.C])
		goes = false
	case api.OpRecv, api.OpTry:
		m.take(p, in)
		goes = false
	case api.OpTimer:
		x.Timer, x.Fired = 0, false
		if r[in.A] > 0 {
			x.Timer = m.s.Tick + min(r[in.A], 1<<40)
		}
	case api.OpSleep:
		x.State, goes = api.Asleep, false
		x.Wake = m.s.Tick + min(max(r[in.A], 1), 1<<40)
	case api.OpLock:
		goes = m.lock(p, int(in.Imm))
	case api.OpUnlock:
		if part := m.c.Procs[p].Part; m.s.Parts[part].Owners[in.Imm] == p {
			m.hand(part, int(in.Imm))
		}
	case api.OpOut:
		m.out(p, r[in.A])
	case api.OpNow:
		x.Regs[in.A] = m.s.Tick
	case api.OpSelf:
		x.Regs[in.A] = int64(p)
	default:
		v, e := alu.Do(in.Op, r[in.B], r[in.C])
		if e != api.OK {
			v, _ = flt.Do(in.Op, r[in.B], r[in.C])
		}
		x.Regs[in.A] = v
	}
	if goes {
		x.PC++
	}
}

func (m *plain) send(p int, to, v int64) {
	if to < 0 || to >= int64(len(m.c.Procs)) {
		m.reply(p, 1)
		return
	}
	q := int(to)
	i, j := m.c.Procs[p].Part, m.c.Procs[q].Part
	switch {
	case !m.flows(i, j):
		count(&m.s.Parts[i].Forbidden)
		m.reply(p, 0)
	case i == j && m.ended(q):
		m.reply(p, 2)
	case i == j && m.full(q, i):
		m.s.Procs[p].State = api.WaitSend
		lane := &m.s.Procs[q].Lanes[i]
		lane.Waiters = append(lane.Waiters, api.Waiter{Proc: p, Value: v})
	case m.ended(q) || m.full(q, i):
		m.drop(q, i)
		m.reply(p, 0)
	default:
		m.into(q, i, v)
		m.reply(p, 0)
	}
}

func (m *plain) take(p int, in api.Ins) {
	x := &m.s.Procs[p]
	took := func(v, from int64) {
		x.Regs[in.A] = v
		x.Regs[in.B] = from
		x.PC++
	}
	for k := range x.Lanes {
		at := (x.Cursor + k) % len(x.Lanes)
		l := &x.Lanes[at]
		if len(l.Values) == 0 {
			continue
		}
		v := l.Values[0]
		l.Values = slices.Clone(l.Values[1:])
		count(&l.Taken)
		x.Cursor = (at + 1) % len(x.Lanes)
		took(v, int64(at))
		if len(l.Waiters) > 0 {
			w := l.Waiters[0]
			l.Waiters = slices.Clone(l.Waiters[1:])
			m.into(p, at, w.Value)
			m.reply(w.Proc, 0)
		}
		return
	}
	switch {
	case x.Fired:
		x.Fired = false
		took(0, -2)
	case in.Op == api.OpRecv:
		x.State = api.WaitRecv
	default:
		took(0, -1)
	}
}

// lock tells whether the process goes on.
func (m *plain) lock(p, lock int) bool {
	own := &m.s.Parts[m.c.Procs[p].Part]
	if own.Owners[lock] == -1 || own.Owners[lock] == p {
		own.Owners[lock] = p
		return true
	}
	own.Queues[lock] = append(own.Queues[lock], p)
	m.s.Procs[p].State = api.WaitLock
	return false
}

func (m *plain) out(p int, v int64) {
	own := &m.s.Parts[m.c.Procs[p].Part]
	if len(own.Log) == m.c.Log {
		count(&own.Lost)
		return
	}
	own.Log = append(own.Log, api.Entry{Tick: m.s.Tick, Proc: p, Value: v})
}

// pair is a machine and the plain one, to which the same is done; behind each call both must stand alike.
type pair struct {
	t *testing.T
	m *Machine
	p *plain
}

// start is a new machine.
func start(t *testing.T, c api.Config) *pair {
	t.Helper()
	m, e := New(c)
	if m == nil || e != api.OK {
		t.Fatalf("New: %v, %d", m, e)
	}
	x := &pair{t, m, fresh(c)}
	x.look()
	return x
}

// startAt is a machine that stands so.
func startAt(t *testing.T, c api.Config, s api.State) *pair {
	t.Helper()
	m, e := Lay(c, s)
	if m == nil || e != api.OK {
		t.Fatalf("Lay(%+v): %v, %d", s, m, e)
	}
	x := &pair{t, m, &plain{cloneConfig(c), clone(s)}}
	x.look()
	return x
}

// look asks whether both stand alike, and so as a machine may.
func (x *pair) look() {
	x.t.Helper()
	got := x.m.State()
	if !same(got, x.p.s) {
		x.t.Fatalf("State: %+v\nnot %+v\nof %+v", got, x.p.s, x.p.c)
	}
	if e := May(x.p.c, got); got.Tick <= 1<<62 && e != api.OK {
		x.t.Fatalf("May of what State tells: %d: %+v\nof %+v", e, got, x.p.c)
	}
	if !sameConfig(x.m.Config(), x.p.c) {
		x.t.Fatalf("Config: %+v, not %+v", x.m.Config(), x.p.c)
	}
}

// ticks does so many slots.
func (x *pair) ticks(n int) {
	x.t.Helper()
	for range n {
		tick := x.p.s.Tick
		want := x.p.Tick()
		if got := x.m.Tick(); got != want {
			x.t.Fatalf("Tick number %d: %d, not %d", tick, got, want)
		}
		x.look()
	}
}

// inject and kill ask for an answer, too.
func (x *pair) inject(p int, v int64, want api.Errno) {
	x.t.Helper()
	if got, e := x.m.Inject(p, v), x.p.Inject(p, v); got != want || e != want {
		x.t.Fatalf("Inject(%d, %d): %d, not %d (and plainly %d)", p, v, got, want, e)
	}
	x.look()
}

func (x *pair) kill(p int, want api.Errno) {
	x.t.Helper()
	if got, e := x.m.Kill(p), x.p.Kill(p); got != want || e != want {
		x.t.Fatalf("Kill(%d): %d, not %d (and plainly %d)", p, got, want, e)
	}
	x.look()
}

// is asks for a process's state and program counter.
func (x *pair) is(p, state, pc int) {
	x.t.Helper()
	if s := x.m.State().Procs[p]; s.State != state || s.PC != pc {
		x.t.Fatalf("process %d: state %d, PC %d, not %d, %d", p, s.State, s.PC, state, pc)
	}
}

// reg asks for a register.
func (x *pair) reg(p, r int, want int64) {
	x.t.Helper()
	if got := x.m.State().Procs[p].Regs[r]; got != want {
		x.t.Fatalf("process %d: r%d is %d, not %d", p, r, got, want)
	}
}

// lane asks for a lane's counts and messages.
func (x *pair) lane(p, lane, taken, dropped int, values ...int64) {
	x.t.Helper()
	l := x.m.State().Procs[p].Lanes[lane]
	if l.Taken != taken || l.Dropped != dropped || !slices.Equal(l.Values, values) {
		x.t.Fatalf("process %d: lane %d: %+v, not taken %d, dropped %d, %v", p, lane, l, taken, dropped, values)
	}
}

// waiters asks who waits for a lane.
func (x *pair) waiters(p, lane int, want ...api.Waiter) {
	x.t.Helper()
	if got := x.m.State().Procs[p].Lanes[lane].Waiters; !slices.Equal(got, want) {
		x.t.Fatalf("process %d: lane %d: %v wait, not %v", p, lane, got, want)
	}
}

// lock asks who holds a lock, and who waits for it.
func (x *pair) lock(part, lock, owner int, queue ...int) {
	x.t.Helper()
	s := x.m.State().Parts[part]
	if s.Owners[lock] != owner || !slices.Equal(s.Queues[lock], queue) {
		x.t.Fatalf("lock %d of %d: %d, %v, not %d, %v", lock, part, s.Owners[lock], s.Queues[lock], owner, queue)
	}
}

// log asks for a partition's log.
func (x *pair) log(part, lost int, want ...api.Entry) {
	x.t.Helper()
	s := x.m.State().Parts[part]
	if s.Lost != lost || !slices.Equal(s.Log, want) {
		x.t.Fatalf("log of %d: %v, lost %d, not %v, %d", part, s.Log, s.Lost, want, lost)
	}
}

// timers asks for a process's times.
func (x *pair) timers(p int, timer, wake int64, fired bool) {
	x.t.Helper()
	if s := x.m.State().Procs[p]; s.Timer != timer || s.Wake != wake || s.Fired != fired {
		x.t.Fatalf("process %d: Timer %d, Wake %d, Fired %v, not %d, %d, %v", p, s.Timer, s.Wake, s.Fired, timer, wake, fired)
	}
}

// chance makes numbers that look like chance, the same ones each time.
type chance uint64

func (c *chance) next(n int) int {
	*c = *c*6364136223846793005 + 1442695040888963407
	return int(uint64(*c)>>33) % n
}

// config makes one that may be.
func (c *chance) config() api.Config {
	x := api.Config{Fuel: 1 + c.next(7), Lane: 1 + c.next(3), Locks: c.next(4), Log: c.next(8)}
	for label := range uint64(8) {
		if c.next(4) == 0 {
			x.Labels = append(x.Labels, label)
		}
	}
	if len(x.Labels) == 0 {
		x.Labels = []uint64{uint64(c.next(8))}
	}
	for range 1 + c.next(5) {
		x.Table = append(x.Table, c.next(len(x.Labels)))
	}
	procs := 1 + c.next(9)
	for range procs {
		x.Procs = append(x.Procs, api.Proc{Part: c.next(len(x.Labels)), Code: c.code(procs, x.Locks)})
	}
	return x
}

// code makes a program in which the registers 0 to 3 are mostly numbers of processes.
func (c *chance) code(procs, locks int) []api.Ins {
	if c.next(3) == 0 {
		return server(c.next(len(servers)))
	}
	var l []api.Ins
	for r := range c.next(5) {
		l = append(l, api.Ins{Op: api.OpSet, A: r, Imm: int64(c.next(procs+3) - 1)})
	}
	for range c.next(24) {
		l = append(l, c.ins(locks))
	}
	if c.next(8) > 0 {
		l = append(l, api.Ins{Op: api.OpJump, Imm: int64(c.next(len(l) + 1))})
	}
	for i := range l {
		if l[i].Op == api.OpJump || l[i].Op == api.OpIf {
			l[i].Imm = int64(c.next(len(l) + 1))
		}
	}
	return l
}

// servers are programs that keep receiving, or sending to the processes 0 to 2, so that others get on.
var servers = [][]string{
	{"recv r4 r5", "out r4", "jump 0"},
	{"sleep r4", "recv r4 r5", "jump 0"},
	{"set r1 2", "set r6 9", "timer r1", "recv r4 r5", "sub r6 r6 r1", "if r6 2"},
	{"set r1 1", "add r2 r2 r1", "send r7 r0 r2", "out r7", "jump 1"},
	{"set r1 1", "send r7 r1 r1", "send r7 r0 r1", "try r4 r5", "jump 1"},
	{"set r2 2", "send r7 r2 r2", "jump 1"},
}

func server(i int) []api.Ins { return program(servers[i]...) }

// ins makes an instruction, those that have to do with others above all.
func (c *chance) ins(locks int) api.Ins {
	ops := []int{api.OpSend, api.OpSend, api.OpSend, api.OpRecv, api.OpRecv, api.OpTry, api.OpTimer, api.OpTimer, api.OpSleep,
		api.OpLock, api.OpLock, api.OpLock, api.OpUnlock, api.OpUnlock, api.OpOut, api.OpIf, api.OpSet}
	op := ops[c.next(len(ops))]
	if c.next(6) == 0 {
		op = c.next(api.Ops)
	}
	if op == api.OpExit && c.next(3) > 0 || locks == 0 && (op == api.OpLock || op == api.OpUnlock) {
		op = api.OpSelf
	}
	a, b, d, imm := code.Fields(op)
	x := api.Ins{Op: op}
	if a {
		x.A = c.register(op == api.OpSend || op == api.OpRecv || op == api.OpTry)
	}
	if b {
		x.B = c.next(4)
		if op == api.OpRecv || op == api.OpTry {
			x.B = 4 + c.next(4)
		}
	}
	if d {
		x.C = c.next(8)
	}
	if imm {
		x.Imm = int64(c.next(6) - 1)
	}
	if op == api.OpLock || op == api.OpUnlock {
		x.Imm = int64(c.next(locks))
	}
	return x
}

// register is one behind those of numbers of processes, mostly, if it is to be written.
func (c *chance) register(written bool) int {
	if written && c.next(8) > 0 {
		return 4 + c.next(4)
	}
	return c.next(8)
}
