package twin

import (
	"fmt"
	"math"
	"slices"
	"strings"
	"testing"

	"firebreak/api"
	"firebreak/asm"
	"firebreak/conf"
	"firebreak/machine"
)

// of is a process of a partition, whose program's lines are told.
func of(part int, lines ...string) api.Proc {
	text := ""
	for _, l := range lines {
		text += l + "\n"
	}
	code, e, line, at := asm.Parse(text)
	if e != api.OK {
		panic(fmt.Sprintf("%q: %d in line %d at %d", text, e, line, at))
	}
	return api.Proc{Part: part, Code: code}
}

// chapter is the config of the chapter's examples.
func chapter() api.Config {
	return api.Config{
		Labels: []uint64{0, 1}, Table: []int{0, 1}, Fuel: 2, Lane: 1, Locks: 1, Log: 4,
		Procs: []api.Proc{of(0, "recv r3 r4", "out r3", "jump 0"), of(1, "recv r3 r4", "exit")},
	}
}

// one is a config of one partition and process.
func one(label uint64) api.Config {
	return api.Config{Labels: []uint64{label}, Table: []int{0}, Fuel: 3, Lane: 2, Log: 5, Procs: []api.Proc{of(0, "recv r1 r2", "out r1", "jump 0")}}
}

// busy is a config of partitions with those labels; each has eight processes, that send (to their own partition and to the next one), wait, lock, sleep, set timers and log.
func busy(labels ...uint64) api.Config {
	c := api.Config{Labels: labels, Fuel: 6, Lane: 2, Locks: 2, Log: 9}
	for part := range labels {
		c.Table = append(c.Table, part)
		first := len(c.Procs)
		taker, next := fmt.Sprintf("set r0 %d", first), fmt.Sprintf("set r2 %d", first+8)
		c.Procs = append(c.Procs,
			of(part, "recv r1 r2", "out r1", "jump 0"),
			of(part, taker, "set r1 9", "send r4 r0 r1", "jump 2"),
			of(part, "set r0 3", "timer r0", "recv r1 r2", "out r2", "jump 1"),
			of(part, "lock 0", "out r0", "unlock 0", "jump 0"), of(part, "lock 0", "set r0 2", "sleep r0", "unlock 0", "jump 0"), of(part, "lock 1", "lock 0"),
			of(part, "try r1 r2", "now r3", "jump 0"), of(part, next, "now r1", "send r4 r2 r1", "out r4", "jump 1"))
	}
	return c
}

// ticks, inject and kill are steps of their kinds, stepOf one of any.
func ticks(n int) api.Step              { return api.Step{Kind: 1, N: n} }
func inject(p int, v int64) api.Step    { return api.Step{Kind: 2, N: p, V: v} }
func kill(p int) api.Step               { return api.Step{Kind: 3, N: p} }
func stepOf(k, n int, v int64) api.Step { return api.Step{Kind: k, N: n, V: v} }

// wild are numbers of nothing; some have a small one as their lowest bytes.
var wild = []int{-1, -2, -8, -32, -256, -1 << 32, 1 - 1<<32, math.MinInt, math.MinInt + 1, 40, 64, 255, 256, 257, 1 << 16, 1 << 31, 1 << 32, 1<<32 + 1, 1 << 62, math.MaxInt - 1, math.MaxInt}

// noKinds are those of no step.
var noKinds = append([]int{0, 4, 5}, wild...)

// plainSees tells whether all secrets of a process's partition are among those of the label.
func plainSees(c api.Config, p int, a uint64) bool {
	for number, proc := range c.Procs {
		if number == p {
			for part, l := range c.Labels {
				if part == proc.Part {
					return plainFlows(l, a)
				}
			}
		}
	}
	return false
}

func plainFlows(a, b uint64) bool {
	for secret := range 64 {
		if a>>secret&1 == 1 && b>>secret&1 == 0 {
			return false
		}
	}
	return true
}

// plainPurge cuts what is not to be seen out of a copy.
func plainPurge(c api.Config, l []api.Step, a uint64) []api.Step {
	return slices.DeleteFunc(slices.Clone(l), func(s api.Step) bool {
		switch s.Kind {
		case 2, 3:
			return !plainSees(c, s.N, a)
		}
		return false
	})
}

// stand is how a thing stands, as text; a list without elements is told in one way.
func stand(x any) string { return fmt.Sprintf("%+v", x) }

// plainMay is the chapter, said plainly: what must be the same is held against each other as text.
func plainMay(t Twins) bool {
	ea, _ := conf.May(t.A)
	eb, _ := conf.May(t.B)
	if ea != api.OK || eb != api.OK || len(t.S) > 1024 || len(t.T) > 1024 {
		return false
	}
	return stand(shown(t.A, t.Label)) == stand(shown(t.B, t.Label)) && stand(plainPurge(t.A, t.S, t.Label)) == stand(plainPurge(t.B, t.T, t.Label))
}

// shown is a config without the programs of processes that are not seen.
func shown(c api.Config, a uint64) api.Config {
	c.Procs = slices.Clone(c.Procs)
	for p := range c.Procs {
		if !plainSees(c, p, a) {
			c.Procs[p].Code = nil
		}
	}
	return c
}

// sight is what was seen at some time, and how many ticks there were then.
type sight struct {
	tick int64
	seen string
}

// sights are what an observer sees of a run: at first, when all steps ahead of the first tick are done, and behind each tick likewise. (Steps are done on a machine of its own.)
func sights(t *testing.T, c api.Config, l []api.Step, a uint64) []sight {
	t.Helper()
	m, e := machine.New(c)
	if e != api.OK {
		t.Fatalf("machine.New(%+v): %d", c, e)
	}
	tick, owner := 0, -1
	var all []sight
	look := func() {
		s := m.State()
		for i := range s.Parts {
			if !plainFlows(c.Labels[i], a) {
				s.Parts[i] = api.Part{}
			}
		}
		for i := range s.Procs {
			if !plainSees(c, i, a) {
				s.Procs[i] = api.Process{}
			}
		}
		all = append(all, sight{int64(tick), stand(owner) + stand(s)})
	}
	look()
	for _, s := range l {
		switch {
		case s.Kind == 1 && s.N > 0 && s.N <= 65536-tick:
			for range s.N {
				look()
				owner = m.Tick()
				tick++
			}
		case s.Kind == 2:
			m.Inject(s.N, s.V)
		case s.Kind == 3:
			m.Kill(s.N)
		}
	}
	look()
	return all
}

// plainTogether is what is told of two runs whose scripts have as many ticks.
func plainTogether(t *testing.T, x Twins) (bool, int64) {
	t.Helper()
	a, b := sights(t, x.A, x.S, x.Label), sights(t, x.B, x.T, x.Label)
	if len(a) != len(b) {
		t.Fatalf("%d and %d ticks", len(a)-2, len(b)-2)
	}
	for i := range a {
		if a[i] != b[i] {
			return false, a[i].tick
		}
	}
	return true, a[len(a)-1].tick
}

// chance makes numbers that look like chance, the same ones each time.
type chance uint64

func (c *chance) next(n int) int {
	*c = *c*6364136223846793005 + 1442695040888963407
	return int(uint64(*c)>>33) % n
}

// programs are such as have to do with others; in the place of N there comes a number.
var programs = [][]string{
	{},
	{"exit"},
	{"jump 0"},
	{"recv r4 r5", "out r4", "jump 0"},
	{"recv r4 r5", "exit"},
	{"sleep r0", "now r1", "out r1", "jump 0"},
	{"set r0 N", "add r1 r1 r0", "send r7 r0 r1", "out r7", "jump 1"},
	{"set r0 N", "send r7 r0 r0", "recv r4 r5", "out r5", "jump 1"},
	{"set r1 N", "timer r1", "recv r4 r5", "out r5", "jump 1"},
	{"lock 0", "out r0", "unlock 0", "jump 0"},
	{"lock 1", "jump 1"},
	{"lock 0", "lock 1", "exit"},
	{"try r4 r5", "out r5", "self r6", "jump 0"},
	{"set r0 N", "if r0 3", "lock 1", "sub r0 r0 r1", "sleep r0", "jump 1"},
}

// program makes one.
func (c *chance) program(procs int) []string {
	l := slices.Clone(programs[c.next(len(programs))])
	for i := range l {
		l[i] = strings.ReplaceAll(l[i], "N", fmt.Sprint(c.next(procs+2)-1))
	}
	return l
}

// config makes one that may be.
func (c *chance) config() api.Config {
	x := api.Config{Fuel: 1 + c.next(7), Lane: 1 + c.next(3), Locks: 2 + c.next(2), Log: c.next(8)}
	label := uint64(c.next(2))
	for range 1 + c.next(5) {
		x.Labels = append(x.Labels, label)
		label += uint64(1 + c.next(4))
	}
	for range 1 + c.next(7) {
		x.Table = append(x.Table, c.next(len(x.Labels)))
	}
	for procs := 1 + c.next(9); len(x.Procs) < procs; {
		x.Procs = append(x.Procs, of(c.next(len(x.Labels)), c.program(procs)...))
	}
	return x
}

// label makes one of an observer: of some partitions, of none, or of all.
func (c *chance) label(x api.Config) uint64 {
	a := x.Labels[c.next(len(x.Labels))]
	switch c.next(8) {
	case 0:
		return math.MaxUint64
	case 1:
		return 0
	case 2:
		return uint64(c.next(64))
	case 3, 4:
		return a | x.Labels[c.next(len(x.Labels))]
	}
	return a
}

// step makes one, for a machine of some nine processes.
func (c *chance) step() api.Step {
	switch c.next(12) {
	case 0:
		return kill(c.next(11) - 1)
	case 1, 2, 3, 4:
		return inject(c.next(11)-1, int64(c.next(9)-4))
	case 5:
		return ticks([]int{0, -1, 65537, 65536, math.MaxInt, math.MinInt, 1 << 32}[c.next(7)*c.next(2)])
	case 6:
		return stepOf(noKinds[c.next(len(noKinds))], c.next(5), int64(c.next(3)))
	}
	return ticks(1 + c.next(5))
}

// steps makes a script.
func (c *chance) steps() []api.Step {
	l := make([]api.Step, c.next(25))
	for i := range l {
		l[i] = c.step()
		if l[i].N == 65536 {
			// So many ticks take long: where they are done at all they are rare.
			l[i].N += min(c.next(300), 1)
		}
	}
	return l
}

// hide makes what may stand in the place of a config and a script, for the eyes of an observer: other programs, and other steps, where they don't look.
func (c *chance) hide(x api.Config, l []api.Step, a uint64) (api.Config, []api.Step) {
	x.Procs = slices.Clone(x.Procs)
	for p := range x.Procs {
		if !plainSees(x, p, a) && c.next(4) > 0 {
			x.Procs[p] = of(x.Procs[p].Part, c.program(len(x.Procs))...)
		}
	}
	var out []api.Step
	for _, s := range append(plainPurge(x, l, a), stepOf(2, -1, 0)) {
		for c.next(3) == 0 {
			out = append(out, plainHidden(x, c.step(), a)...)
		}
		out = append(out, s)
	}
	return x, out
}

// plainHidden is a step, if it is one that the observer may not know of; else none.
func plainHidden(c api.Config, s api.Step, a uint64) []api.Step {
	if len(plainPurge(c, []api.Step{s}, a)) > 0 {
		return nil
	}
	return []api.Step{s}
}

// twins makes such as must look alike.
func (c *chance) twins() Twins {
	x := Twins{A: c.config(), S: c.steps()}
	x.Label = c.label(x.A)
	x.B, x.T = c.hide(x.A, x.S, x.Label)
	return x
}
