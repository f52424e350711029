package run

import (
	"bytes"
	"fmt"
	"slices"
	"strings"
	"testing"

	"firebreak/api"
	"firebreak/asm"
	"firebreak/conf"
	"firebreak/machine"
	"firebreak/script"
)

// of is a process of a partition, whose program's lines are told.
func of(part int, lines ...string) api.Proc {
	text := ""
	for _, l := range lines {
		text += l + "\n"
	}
	code, e, line, at := asm.Parse(text)
	if e != api.OK {
		panic(fmt.Sprintf("%q: %d in line %d at %d", text, e, line, at))
	}
	return api.Proc{Part: part, Code: code}
}

// small is the first example of chapter 15.
func small() api.Config {
	return api.Config{
		Labels: []uint64{0, 1}, Table: []int{0, 1}, Fuel: 2, Lane: 1, Locks: 1, Log: 4,
		Procs: []api.Proc{of(0, "set r0 1", "set r1 5", "send r2 r0 r1", "exit"), of(1, "recv r3 r4", "out r3", "exit")},
	}
}

// one is a config of one partition, three one of three; both have processes that never end.
func one() api.Config {
	return api.Config{Labels: []uint64{6}, Table: []int{0}, Fuel: 3, Lane: 2, Log: 5, Procs: []api.Proc{of(0, "recv r1 r2", "out r1", "jump 0")}}
}

func three() api.Config {
	return api.Config{
		Labels: []uint64{0, 1, 2}, Table: []int{0, 1, 0, 2, 2}, Fuel: 2, Lane: 2, Locks: 1, Log: 6,
		Procs: []api.Proc{of(2, "recv r1 r2", "out r1", "jump 0"), of(0, "send r3 r0 r1", "add r1 r1 r2", "jump 0"), of(1, "sleep r0", "jump 0"), of(2, "now r4", "jump 0")},
	}
}

// busy is a config whose machine has something in each kind of list, when it had some 40 ticks.
func busy() api.Config {
	return api.Config{
		Labels: []uint64{0, 1}, Table: []int{1, 0}, Fuel: 5, Lane: 2, Locks: 2, Log: 9,
		Procs: []api.Proc{
			of(1, "set r0 1000", "timer r0", "sleep r0"), of(1, "set r1 9", "send r2 r0 r1", "jump 1"), of(1, "send r2 r0 r7", "jump 0"),
			of(1, "lock 0", "jump 1"), of(1, "lock 0", "jump 1"), of(1, "lock 1", "lock 0"),
			of(0, "send r1 r0 r7", "out r7", "jump 0"), of(0, "lock 1", "jump 1"), of(0, "lock 1", "exit"), of(1, "self r3", "out r3", "jump 0"),
		},
	}
}

// greatest is a config of as much as may be of each thing.
func greatest() api.Config {
	c := api.Config{Fuel: api.MaxFuel, Lane: api.MaxLane, Locks: api.MaxLocks, Log: api.MaxLog}
	for label := range uint64(api.MaxParts) {
		c.Labels = append(c.Labels, 1<<(label+1)-1)
	}
	for i := range api.MaxTable {
		c.Table = append(c.Table, i*i%api.MaxParts)
	}
	for i := range api.MaxProcs {
		lines := append(slices.Repeat([]string{"add r1 r1 r0", "send r2 r1 r0", "try r3 r4", "out r3"}, api.MaxCode/4)[1:], "jump 0")
		c.Procs = append(c.Procs, of(i%api.MaxParts, lines...))
	}
	return c
}

// configs are those of which much is asked.
func configs() []api.Config { return []api.Config{small(), one(), three(), busy()} }

// encoded are a config's bytes, written those of a script.
func encoded(t *testing.T, c api.Config) []byte {
	t.Helper()
	b, e := conf.Encode(c)
	if e != api.OK {
		t.Fatalf("conf.Encode(%+v): %d", c, e)
	}
	return b
}

func written(t *testing.T, l []api.Step) []byte {
	t.Helper()
	b, e, at := script.Encode(l)
	if e != api.OK {
		t.Fatalf("script.Encode: %d at %d", e, at)
	}
	return b
}

// with are bytes with another one at a place.
func with(b []byte, at int, v byte) []byte {
	b = bytes.Clone(b)
	b[at] = v
	return b
}

// ticks, inject and kill are steps of their kinds, stepOf one of any.
func ticks(n int) api.Step              { return api.Step{Kind: api.StepTick, N: n} }
func inject(p int, v int64) api.Step    { return api.Step{Kind: api.StepInject, N: p, V: v} }
func kill(p int) api.Step               { return api.Step{Kind: api.StepKill, N: p} }
func stepOf(k, n int, v int64) api.Step { return api.Step{Kind: k, N: n, V: v} }
func answer(e api.Errno, tick int64, owner int) api.Answer {
	return api.Answer{E: e, Tick: tick, Owner: owner}
}

// stand is how a machine stands, as text; a list without elements is told in one way.
func stand(s api.State) string { return fmt.Sprintf("%+v", s) }

// plain is a run as the chapter says it, on a machine of its own.
type plain struct {
	m     *machine.Machine
	table []int
	ticks int
}

func plainly(t *testing.T, c api.Config) *plain {
	t.Helper()
	m, e := machine.New(c)
	if e != api.OK {
		t.Fatalf("machine.New(%+v): %d", c, e)
	}
	return &plain{m: m, table: slices.Clone(c.Table)}
}

func (p *plain) do(s api.Step) api.Answer {
	e := p.deed(s)
	if p.ticks == 0 {
		return answer(e, 0, -1)
	}
	return answer(e, int64(p.ticks), p.table[(p.ticks-1)%len(p.table)])
}

func (p *plain) deed(s api.Step) api.Errno {
	switch s.Kind {
	case 1:
		if s.N <= 0 {
			return api.ErrArg
		}
		if s.N > 65536 || p.ticks+s.N > 65536 {
			return api.ErrMany
		}
		for range s.N {
			p.m.Tick()
			p.ticks++
		}
		return api.OK
	case 2:
		return p.m.Inject(s.N, s.V)
	case 3:
		return p.m.Kill(s.N)
	}
	return api.ErrArg
}

// pair is a run, and the same one as the chapter says it.
type pair struct {
	t *testing.T
	r *Run
	p *plain
}

func start(t *testing.T, c api.Config) *pair {
	t.Helper()
	r, e, at := Boot(encoded(t, c))
	if r == nil || e != api.OK || at != 0 {
		t.Fatalf("Boot of %+v: %v, %d, %d", c, r, e, at)
	}
	x := &pair{t, r, plainly(t, c)}
	x.look()
	return x
}

// look asks whether both stand alike.
func (x *pair) look() {
	x.t.Helper()
	if got, want := stand(x.r.State()), stand(x.p.m.State()); got != want {
		x.t.Fatalf("State: %s\nnot %s", got, want)
	}
}

// step does a step in both.
func (x *pair) step(s api.Step) api.Answer {
	x.t.Helper()
	want := x.p.do(s)
	got := x.r.Do(s)
	if got != want {
		x.t.Fatalf("Do(%+v): %+v, not %+v", s, got, want)
	}
	x.look()
	return got
}

// told does a step that must be answered so.
func (x *pair) told(s api.Step, want api.Answer) {
	x.t.Helper()
	if got := x.step(s); got != want {
		x.t.Fatalf("Do(%+v): %+v, not %+v", s, got, want)
	}
}

// refused does a step by which nothing is done.
func (x *pair) refused(s api.Step, e api.Errno) {
	x.t.Helper()
	before, last := stand(x.r.State()), x.r.Do(api.Step{})
	x.told(s, answer(e, last.Tick, last.Owner))
	if after := stand(x.r.State()); after != before {
		x.t.Fatalf("Do(%+v): %s, not %s", s, after, before)
	}
}

// chance makes numbers that look like chance, the same ones each time.
type chance uint64

func (c *chance) next(n int) int {
	*c = *c*6364136223846793005 + 1442695040888963407
	return int(uint64(*c)>>33) % n
}

// programs are such as have to do with others; in the place of N there comes a number.
var programs = [][]string{
	{},
	{"exit"},
	{"jump 0"},
	{"recv r4 r5", "out r4", "jump 0"},
	{"recv r4 r5", "exit"},
	{"sleep r0", "now r1", "out r1", "jump 0"},
	{"set r0 N", "add r1 r1 r0", "send r7 r0 r1", "out r7", "jump 1"},
	{"set r0 N", "send r7 r0 r0", "recv r4 r5", "out r5", "jump 1"},
	{"set r1 N", "timer r1", "recv r4 r5", "out r5", "jump 1"},
	{"lock 0", "out r0", "unlock 0", "jump 0"},
	{"lock 1", "jump 1"},
	{"lock 0", "lock 1", "exit"},
	{"try r4 r5", "out r5", "self r6", "jump 0"},
	{"set r0 N", "if r0 3", "lock 1", "sub r0 r0 r1", "sleep r0", "jump 1"},
}

// program makes one.
func (c *chance) program(procs int) []string {
	l := slices.Clone(programs[c.next(len(programs))])
	for i := range l {
		l[i] = strings.ReplaceAll(l[i], "N", fmt.Sprint(c.next(procs+2)-1))
	}
	return l
}

// config makes one that may be, with that table, of partitions 0 to most.
func (c *chance) config(table []int, most int) api.Config {
	x := api.Config{Table: table, Fuel: 1 + c.next(7), Lane: 1 + c.next(3), Locks: 2 + c.next(2), Log: c.next(8)}
	label := uint64(0)
	for range most + 1 + c.next(api.MaxParts-most) {
		x.Labels = append(x.Labels, label)
		label += uint64(1 + c.next(4))
	}
	for procs := 1 + c.next(9); len(x.Procs) < procs; {
		x.Procs = append(x.Procs, of(c.next(len(x.Labels)), c.program(procs)...))
	}
	return x
}

// table makes one of partitions 0 to most.
func (c *chance) table(most int) []int {
	var l []int
	for range 1 + c.next(7) {
		l = append(l, c.next(most+1))
	}
	return l
}

// any makes a config that may be.
func (c *chance) any() api.Config {
	most := c.next(4)
	return c.config(c.table(most), most)
}

// step makes one that a script may have, for a machine of some ten processes.
func (c *chance) step() api.Step {
	switch c.next(10) {
	case 0:
		return kill(c.next(14))
	case 1, 2, 3:
		return inject(c.next(12), int64(c.next(9)-4))
	case 4:
		// Nearly all ticks there may be take long, so they are rare.
		if c.next(12) == 0 {
			return ticks([]int{65536, 65535, 65500}[c.next(3)])
		}
		return ticks([]int{0, 65537, 1<<32 - 1, 1 << 31}[c.next(4)])
	}
	return ticks(1 + c.next(6))
}

// wild makes one that is most often refused, or whose fields are not all looked at.
func (c *chance) wild() api.Step {
	s := c.step()
	switch c.next(4) {
	case 0:
		s.Kind = noKinds[c.next(len(noKinds))]
	case 1:
		s.N = wild[c.next(len(wild))]
	case 2:
		s.V = values[c.next(len(values))]
	}
	return s
}

// steps makes a script.
func (c *chance) steps() []api.Step {
	l := make([]api.Step, c.next(40))
	for i := range l {
		l[i] = c.step()
	}
	return l
}
