package delay

import (
	"fmt"
	"math"
	"math/big"
	"slices"
	"strings"
	"testing"

	"firebreak/api"
	"firebreak/asm"
	"firebreak/conf"
	"firebreak/machine"
)

// of is a process of a partition, whose program's lines are told.
func of(part int, lines ...string) api.Proc {
	text := ""
	for _, l := range lines {
		text += l + "\n"
	}
	code, e, line, at := asm.Parse(text)
	if e != api.OK {
		panic(fmt.Sprintf("%q: %d in line %d at %d", text, e, line, at))
	}
	return api.Proc{Part: part, Code: code}
}

// one is a config of one partition, with fuel for so many instructions a slot.
func one(fuel int, procs ...api.Proc) api.Config {
	return api.Config{Labels: []uint64{7}, Table: []int{0}, Fuel: fuel, Lane: 4, Locks: 3, Log: 4, Procs: procs}
}

// two is a config of two partitions, of which the first one flows to the other one.
func two(fuel int, procs ...api.Proc) api.Config {
	return api.Config{Labels: []uint64{0, 1}, Table: []int{0, 1}, Fuel: fuel, Lane: 4, Locks: 3, Log: 4, Procs: procs}
}

// changed is a config with something changed.
func changed(c api.Config, change func(c *api.Config)) api.Config {
	c.Labels, c.Table, c.Procs = slices.Clone(c.Labels), slices.Clone(c.Table), slices.Clone(c.Procs)
	for i := range c.Procs {
		c.Procs[i].Code = slices.Clone(c.Procs[i].Code)
	}
	change(&c)
	return c
}

// tick, inject and kill are steps.
func tick(n int) api.Step            { return api.Step{Kind: api.StepTick, N: n} }
func inject(p int, v int64) api.Step { return api.Step{Kind: api.StepInject, N: p, V: v} }
func kill(p int) api.Step            { return api.Step{Kind: api.StepKill, N: p} }

// border is what stands behind a tick, an injection or a kill, and at the beginning.
type border struct {
	time int64
	s    api.State
}

// drive does a script, as the chapter says it, and tells all borders.
func drive(t *testing.T, c api.Config, l []api.Step) []border {
	t.Helper()
	m, e := machine.New(c)
	if e != api.OK {
		part, _ := conf.May(c)
		t.Fatalf("machine.New(%+v): %d at %d", c, e, part)
	}
	all := []border{{0, m.State()}}
	look := func() {
		s := m.State()
		all = append(all, border{s.Tick, s})
	}
	for _, step := range l {
		switch step.Kind {
		case api.StepTick:
			if step.N < 1 || step.N > api.MaxTicks || m.State().Tick+int64(step.N) > api.MaxTicks {
				continue
			}
			for range step.N {
				m.Tick()
				look()
			}
		case api.StepInject:
			m.Inject(step.N, step.V)
			look()
		case api.StepKill:
			m.Kill(step.N)
			look()
		}
	}
	return all
}

// plainMessages asks of each message at each border by how many were taken from its lane whether it stood there ahead, and when it was gone.
func plainMessages(all []border) []Message {
	var l []Message
	for b, now := range all {
		for p, proc := range now.s.Procs {
			for i, lane := range proc.Lanes {
				if lane.Taken == api.MaxCount {
					continue
				}
				for place := range lane.Values {
					if b > 0 {
						ahead := all[b-1].s.Procs[p].Lanes[i]
						if place+lane.Taken-ahead.Taken < len(ahead.Values) {
							continue
						}
					}
					later := slices.IndexFunc(all[b+1:], func(x border) bool { return x.s.Procs[p].Lanes[i].Taken >= lane.Taken+place+1 })
					l = append(l, Message{p, i, place, now.time, timeOf(all[b+1:], later)})
				}
			}
		}
	}
	return l
}

// messagesByValue asks the same by the values, each of which is there once. (So it is, unless a count is at its greatest.)
func messagesByValue(all []border) []Message {
	var l []Message
	for b, now := range all {
		for p, proc := range now.s.Procs {
			for i, lane := range proc.Lanes {
				for place, v := range lane.Values {
					if b > 0 && slices.Contains(all[b-1].s.Procs[p].Lanes[i].Values, v) {
						continue
					}
					later := slices.IndexFunc(all[b+1:], func(x border) bool { return !slices.Contains(x.s.Procs[p].Lanes[i].Values, v) })
					l = append(l, Message{p, i, place, now.time, timeOf(all[b+1:], later)})
				}
			}
		}
	}
	return l
}

// plainGrants asks who waits for a lock by the queues.
func plainGrants(c api.Config, all []border) []Grant {
	var l []Grant
	waits := func(x border, p, lock int) bool {
		return slices.Contains(x.s.Parts[c.Procs[p].Part].Queues[lock], p)
	}
	for b, now := range all {
		for p := range c.Procs {
			for lock := range c.Locks {
				if !waits(now, p, lock) || b > 0 && waits(all[b-1], p, lock) {
					continue
				}
				later := slices.IndexFunc(all[b+1:], func(x border) bool { return !waits(x, p, lock) })
				l = append(l, Grant{p, lock, now.time, timeOf(all[b+1:], later)})
			}
		}
	}
	return l
}

// timeOf is the time of one of the borders; -1, if there is none.
func timeOf(all []border, i int) int64 {
	if i < 0 {
		return -1
	}
	return all[i].time
}

// watched is what Watch tells of a config that may be.
func watched(t *testing.T, c api.Config, l ...api.Step) ([]Message, []Grant) {
	t.Helper()
	messages, grants, e := Watch(c, l)
	if e != api.OK {
		t.Fatalf("Watch(%+v, %v): %d", c, l, e)
	}
	return messages, grants
}

// tell asks for what Watch tells, and for what the plain way to it does.
func tell(t *testing.T, c api.Config, l []api.Step, messages []Message, grants []Grant) {
	t.Helper()
	gotMessages, gotGrants := watched(t, c, l...)
	if !slices.Equal(gotMessages, messages) || !slices.Equal(gotGrants, grants) {
		t.Errorf("Watch(.., %v): %v %v, not %v %v", l, gotMessages, gotGrants, messages, grants)
	}
	all := drive(t, c, l)
	if plain := plainMessages(all); !slices.Equal(plain, messages) {
		t.Errorf("%v, not %v", plain, messages)
	}
	if plain := plainGrants(c, all); !slices.Equal(plain, grants) {
		t.Errorf("%v, not %v", plain, grants)
	}
}

// plainUnits is how many units are asked for, and plainTicks how many ticks they take, both without an end.
func plainTicks(c api.Config, part int, units *big.Int) int64 {
	fuel, gap := big.NewInt(int64(c.Fuel)), plainGap(c, part)
	full := new(big.Int).Add(limited(units), big.NewInt(int64(c.Fuel-1)))
	full.Div(full, fuel)
	return limited(full.Mul(full, big.NewInt(gap))).Int64()
}

// limited is a number that stays at 2^63 - 1.
func limited(n *big.Int) *big.Int {
	most := big.NewInt(math.MaxInt64)
	if n.Cmp(most) > 0 {
		return most
	}
	return n
}

// plainGap is the longest way from a tick to behind the next slot of a partition.
func plainGap(c api.Config, part int) int64 {
	gap := 0
	for from := range c.Table {
		n := 1
		for ; n <= len(c.Table) && c.Table[(from+n-1)%len(c.Table)] != part; n++ {
		}
		gap = max(gap, n)
	}
	return int64(gap)
}

// plainMembers is how many processes a partition has.
func plainMembers(c api.Config, part int) int {
	n := 0
	for _, p := range c.Procs {
		if p.Part == part {
			n++
		}
	}
	return n
}

// plainServed tells whether anything is promised to a partition.
func plainServed(c api.Config, part int) bool {
	e, _ := conf.May(c)
	return e == api.OK && part >= 0 && part < len(c.Labels) && slices.Contains(c.Table, part) && plainMembers(c, part) > 0
}

func plainReceive(c api.Config, part, place, f int) int64 {
	if !plainServed(c, part) || place < 0 || place > c.Lane-1 || f < 1 {
		return 0
	}
	n := 1
	for _, label := range c.Labels {
		if label|c.Labels[part] == c.Labels[part] {
			n++
		}
	}
	units := big.NewInt(int64(place) + 1)
	for _, x := range []int{n, f, plainMembers(c, part)} {
		units.Mul(units, big.NewInt(int64(x)))
	}
	return plainTicks(c, part, units)
}

func plainLock(c api.Config, part, lock, hold int) int64 {
	if !plainServed(c, part) || lock < 0 || lock > c.Locks-1 || hold < 1 || hold > api.MaxHold {
		return 0
	}
	return plainTicks(c, part, plainUnits(plainMembers(c, part), c.Locks, lock, hold))
}

// plainUnits is T of a lock.
func plainUnits(m, locks, lock, hold int) *big.Int {
	units := new(big.Int)
	for k := lock + 1; k < locks; k++ {
		if x := plainUnits(m, locks, k, hold); x.Cmp(units) > 0 {
			units = x
		}
	}
	units = new(big.Int).Add(units, big.NewInt(int64(m)))
	units.Mul(units, big.NewInt(int64(m-1)*int64(hold)))
	return units.Add(units, big.NewInt(1))
}

// wild are numbers of nothing; some have a small one as their lowest bytes.
var wild = []int{-1, -2, -8, -32, -256, -1 << 32, 1 - 1<<32, math.MinInt, math.MinInt + 1, 65, 255, 256, 257, 1 << 16, 1 << 31, 1 << 32, 1<<32 + 1, 1 << 62, math.MaxInt - 1, math.MaxInt}

// refused are so many ticks as are never done.
var refused = []int{0, -1, math.MinInt, -1<<32 + 1, api.MaxTicks + 1, 1<<32 + 1, 1 << 62, math.MaxInt - 1, math.MaxInt}

// chance makes numbers that look like chance, the same ones each time.
type chance uint64

func (c *chance) next(n int) int {
	*c = *c*6364136223846793005 + 1442695040888963407
	return int(uint64(*c)>>33) % n
}

// opening is what each program of chance begins with: r0 is the own number, r1 a value that nobody else sends, r3 is 1.
var opening = []string{"self r0", "set r2 4294967296", "mul r1 r0 r2", "set r3 1"}

// pieces are what it is made of; what is sent is never sent again. In the place of N there comes a number of a process, in those of L and K those of locks.
var pieces = [][]string{
	{"set r6 N", "send r7 r6 r1", "add r1 r1 r3"},
	{"set r6 N", "send r7 r6 r1", "add r1 r1 r3", "send r7 r6 r1", "add r1 r1 r3"},
	{"send r7 r0 r1", "add r1 r1 r3"},
	{"recv r4 r5"},
	{"recv r4 r5"},
	{"try r4 r5"},
	{"sleep r3"},
	{"timer r3"},
	{"lock L"},
	{"lock L", "now r4", "unlock L"},
	{"lock L", "lock K", "unlock L", "unlock K"},
	{"unlock L"},
	{"lock L", "sleep r3", "unlock L"},
	{"out r1"},
}

// lines makes a program.
func (c *chance) lines(procs, locks int) []string {
	lines := slices.Clone(opening)
	for range 1 + c.next(5) {
		in := strings.NewReplacer("N", fmt.Sprint(c.next(procs+1)), "L", fmt.Sprint(c.next(locks)), "K", fmt.Sprint(c.next(locks)))
		for _, line := range pieces[c.next(len(pieces))] {
			lines = append(lines, in.Replace(line))
		}
	}
	if c.next(8) > 0 {
		lines = append(lines, "jump 4")
	}
	return lines
}

// config makes one that may be.
func (c *chance) config() api.Config {
	x := api.Config{Fuel: 1 + c.next(8), Lane: 1 + c.next(4), Locks: 1 + c.next(3), Log: c.next(8)}
	if c.next(6) == 0 {
		x.Fuel = 40
	}
	label := uint64(c.next(2))
	for range 1 + c.next(3) {
		x.Labels = append(x.Labels, label)
		label += uint64(1 + c.next(4))
	}
	for range 1 + c.next(5) {
		x.Table = append(x.Table, c.next(len(x.Labels)))
	}
	for procs := 1 + c.next(7); len(x.Procs) < procs; {
		x.Procs = append(x.Procs, of(c.next(len(x.Labels)), c.lines(procs, x.Locks)...))
	}
	return x
}

// script makes steps, some of which do nothing; each value that is injected is there once. Processes that are spared are not killed.
func (c *chance) script(procs, steps int, spared ...int) []api.Step {
	var l []api.Step
	for i := range steps {
		p := c.next(procs+2) - 1
		switch k := c.next(16); {
		case k == 0 && !slices.Contains(spared, p):
			l = append(l, kill(p))
		case k < 6:
			l = append(l, inject(p, int64(-1-i)))
		case k == 6:
			l = append(l, tick(refused[c.next(len(refused))]), api.Step{Kind: wild[c.next(len(wild))], N: p})
		default:
			l = append(l, tick(c.next(9)-1))
		}
	}
	return l
}
