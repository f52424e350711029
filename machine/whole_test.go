package machine

import (
	"math"
	"slices"
	"testing"

	"firebreak/api"
)

// P15.2: Lay of State goes on as the machine.

func TestAMachineThatIsLaidGoesOn(t *testing.T) {
	c := chance(5)
	for range 500 {
		x := start(t, c.config())
		for range c.next(60) {
			x.some(&c)
		}
		y := startAt(t, x.m.Config(), x.m.State())
		for range 40 {
			was := c
			x.some(&c)
			c = was
			y.some(&c)
			if !same(x.m.State(), y.m.State()) {
				t.Fatalf("%+v, not %+v", y.m.State(), x.m.State())
			}
		}
	}
}

// Laid anew behind each call it is still the same machine.
func TestAMachineThatIsLaidAgainAndAgain(t *testing.T) {
	c := chance(6)
	for range 500 {
		x := start(t, c.config())
		for range 50 {
			m, e := Lay(x.m.Config(), x.m.State())
			if e != api.OK {
				t.Fatalf("Lay: %d: %+v", e, x.m.State())
			}
			x.m = m
			x.look()
			x.some(&c)
		}
	}
}

func TestLayOfGreatTicks(t *testing.T) {
	c := chance(7)
	for range 300 {
		config := c.config()
		s := fresh(config).s
		s.Tick = 1<<62 - int64(c.next(60))
		x := startAt(t, config, s)
		for range 40 {
			x.some(&c)
		}
	}
}

// P15.2: Copy.

func TestACopyAndTheFirstOneDoNotSeeEachOther(t *testing.T) {
	c := chance(11)
	for range 300 {
		x := start(t, c.config())
		for range c.next(60) {
			x.some(&c)
		}
		first := x.m.State()
		y := &pair{t, x.m.Copy(), &plain{cloneConfig(x.p.c), clone(x.p.s)}}
		y.look()
		for range 30 {
			x.some(&c)
			y.look()
		}
		if e := May(y.p.c, y.m.State()); !same(first, y.m.State()) || e != api.OK {
			t.Fatalf("the copy: %+v, not %+v", y.m.State(), first)
		}
		for range 30 {
			y.some(&c)
			x.look()
			x.some(&c)
			y.look()
		}
	}
}

func TestACopyOfACopy(t *testing.T) {
	c := chance(12)
	x := start(t, small(0, 1))
	for range 200 {
		x.m = x.m.Copy()
		x.look()
		x.some(&c)
	}
}

// P15.3: what is changed of other partitions.

// begins tells whether a list begins with another one.
func begins(list, with []int64) bool {
	return len(list) >= len(with) && slices.Equal(list[:len(with)], with)
}

// changedFrom tells whether a process of another partition stands as it may, behind a call of the partition from, which flows to it.
func changedFrom(before, after api.Process, from int) bool {
	if after.State == api.Ready && before.State == api.WaitRecv && len(after.Lanes[from].Values) > 0 {
		after.State = before.State
	}
	was, is := before.Lanes[from], after.Lanes[from]
	if !begins(is.Values, was.Values) || is.Dropped < was.Dropped {
		return false
	}
	after = cloneProcess(after)
	after.Lanes[from].Values, after.Lanes[from].Dropped = was.Values, was.Dropped
	return sameProcess(before, after)
}

// others asks that a call of the partition i changed nothing of others but what it may.
func others(t *testing.T, c api.Config, before, after api.State, i int, sends bool) {
	t.Helper()
	for j, part := range before.Parts {
		if j != i && !samePart(part, after.Parts[j]) {
			t.Fatalf("of the partition %d: %+v, not %+v", j, after.Parts[j], part)
		}
	}
	for p, x := range before.Procs {
		j := c.Procs[p].Part
		if j == i || sameProcess(x, after.Procs[p]) {
			continue
		}
		if !sends || c.Labels[i]&^c.Labels[j] != 0 || !changedFrom(x, after.Procs[p], i) {
			t.Fatalf("process %d of %d by %d: %+v, not %+v", p, j, i, after.Procs[p], x)
		}
	}
}

func TestWhatIsChangedOfOthers(t *testing.T) {
	c := chance(13)
	for range 1500 {
		x := start(t, c.config())
		for range 50 {
			p := c.next(len(x.p.c.Procs))
			before := x.m.State()
			switch c.next(20) {
			case 0:
				x.m.Kill(p)
				others(t, x.p.c, before, x.m.State(), x.p.c.Procs[p].Part, false)
			case 1, 2:
				x.m.Inject(p, 3)
				others(t, x.p.c, before, x.m.State(), x.p.c.Procs[p].Part, false)
			default:
				i := x.m.Tick()
				others(t, x.p.c, before, x.m.State(), i, true)
			}
		}
	}
}

// sees tells whether a process is seen by who knows a label's secrets.
func sees(c api.Config, p int, label uint64) bool { return c.Labels[c.Procs[p].Part]&^label == 0 }

// sight is what is seen: of all others nothing.
func sight(c api.Config, s api.State, label uint64) api.State {
	for i, a := range c.Labels {
		if a&^label != 0 {
			s.Parts[i] = api.Part{}
		}
	}
	for p := range s.Procs {
		if !sees(c, p, label) {
			s.Procs[p] = api.Process{}
		}
	}
	return s
}

// Two machines of one skeleton, whose programs, injections and kills differ above alone, look alike below.
func TestWhatIsAboveIsNotOverheard(t *testing.T) {
	c := chance(14)
	differ := 0
	for range 1500 {
		a := c.config()
		label := a.Labels[c.next(len(a.Labels))]
		b := cloneConfig(a)
		for p := range b.Procs {
			if !sees(a, p, label) {
				b.Procs[p].Code = c.code(len(a.Procs), a.Locks)
			}
		}
		x, y := start(t, a), start(t, b)
		for range 60 {
			for _, m := range []*Machine{x.m, y.m} {
				above(m, a, label, &c)
			}
			if p := c.next(len(a.Procs)); sees(a, p, label) && c.next(12) == 0 {
				if e, f := x.m.Inject(p, 4), y.m.Inject(p, 4); e != f {
					t.Fatalf("Inject: %d and %d", e, f)
				}
			}
			if i, j := x.m.Tick(), y.m.Tick(); i != j {
				t.Fatalf("Tick: %d and %d", i, j)
			}
			v, w := x.m.State(), y.m.State()
			if !same(v, w) {
				differ++
			}
			if v, w = sight(a, v, label), sight(a, w, label); !same(v, w) {
				t.Fatalf("at %d: %+v and %+v", label, v, w)
			}
		}
	}
	if differ < 1000 {
		t.Errorf("they differed %d times", differ)
	}
}

// above does something to one that is not seen.
func above(m *Machine, c api.Config, label uint64, by *chance) {
	p := by.next(len(c.Procs))
	if sees(c, p, label) {
		return
	}
	switch by.next(20) {
	case 0:
		m.Kill(p)
	case 1, 2, 3, 4:
		m.Inject(p, int64(by.next(9)))
	}
}

// P15.4: memory.

// spare is a list with others in the room behind it.
func spare[T any](list, behind []T) []T { return slices.Concat(list, behind)[:len(list)] }

// whole is a list with all the room that is behind it.
func whole[T any](list []T) []T { return list[:cap(list)] }

// scribble writes over all that a list has, and the room behind it.
func scribble[T any](list []T, with T) {
	for i := range whole(list) {
		whole(list)[i] = with
	}
}

// roomyConfig and roomy have room behind all lists, in which something stands.
func roomyConfig(c api.Config) api.Config {
	c.Labels = spare(c.Labels, []uint64{71, 72, 73})
	c.Table = spare(c.Table, []int{71, 72, 73})
	c.Procs = spare(c.Procs, []api.Proc{{Part: 71, Code: []api.Ins{{Op: 71}}}, {Part: 72}})
	for i := range whole(c.Procs) {
		p := &whole(c.Procs)[i]
		p.Code = spare(p.Code, []api.Ins{{Op: 71, A: i}, {Op: 72, Imm: 7}})
	}
	return c
}

func roomy(s api.State) api.State {
	s.Parts = spare(s.Parts, []api.Part{{Cursor: 71}, {Cursor: 72}})
	for i := range whole(s.Parts) {
		p := &whole(s.Parts)[i]
		p.Log = spare(p.Log, []api.Entry{entry(71, 72, 73), entry(74, 75, 76)})
		p.Owners = spare(p.Owners, []int{71, 72, 73})
		p.Queues = spare(p.Queues, [][]int{{71}, {72, 73}})
		for k := range whole(p.Queues) {
			whole(p.Queues)[k] = spare(whole(p.Queues)[k], []int{71, 72, 73, 74})
		}
	}
	s.Procs = spare(s.Procs, []api.Process{{State: 71}, {State: 72}})
	for i := range whole(s.Procs) {
		p := &whole(s.Procs)[i]
		p.Lanes = spare(p.Lanes, []api.Lane{{Taken: 71}, {Dropped: 72}})
		for k := range whole(p.Lanes) {
			l := &whole(p.Lanes)[k]
			l.Values = spare(l.Values, []int64{71, 72, 73, 74})
			l.Waiters = spare(l.Waiters, []api.Waiter{who(71, 72), who(73, 74)})
		}
	}
	return s
}

// openedConfig and opened are the same with all that stands in the room behind their lists as parts of them, in other memory.
func openedConfig(c api.Config) api.Config {
	c.Labels, c.Table, c.Procs = whole(c.Labels), whole(c.Table), slices.Clone(whole(c.Procs))
	for i := range c.Procs {
		c.Procs[i].Code = whole(c.Procs[i].Code)
	}
	return cloneConfig(c)
}

func opened(s api.State) api.State {
	s.Parts, s.Procs = slices.Clone(whole(s.Parts)), slices.Clone(whole(s.Procs))
	for i := range s.Parts {
		p := &s.Parts[i]
		p.Log, p.Owners, p.Queues = whole(p.Log), whole(p.Owners), slices.Clone(whole(p.Queues))
		for k := range p.Queues {
			p.Queues[k] = whole(p.Queues[k])
		}
	}
	for i := range s.Procs {
		p := &s.Procs[i]
		p.Lanes = slices.Clone(whole(p.Lanes))
		for k := range p.Lanes {
			p.Lanes[k].Values, p.Lanes[k].Waiters = whole(p.Lanes[k].Values), whole(p.Lanes[k].Waiters)
		}
	}
	return clone(s)
}

// scrawlConfig and scrawl write over all lists, and the room behind them.
func scrawlConfig(c api.Config) {
	scribble(c.Labels, 99)
	scribble(c.Table, 99)
	for _, p := range whole(c.Procs) {
		scribble(p.Code, api.Ins{Op: api.OpSet, A: 1, Imm: 99})
	}
	scribble(c.Procs, api.Proc{Part: 99})
}

func scrawl(s api.State) {
	for _, p := range whole(s.Parts) {
		scribble(p.Log, entry(99, 99, 99))
		scribble(p.Owners, 99)
		for _, q := range whole(p.Queues) {
			scribble(q, 99)
		}
		scribble(p.Queues, []int{99})
	}
	scribble(s.Parts, api.Part{Cursor: 99})
	for _, p := range whole(s.Procs) {
		for _, l := range whole(p.Lanes) {
			scribble(l.Values, 99)
			scribble(l.Waiters, who(99, 99))
		}
		scribble(p.Lanes, api.Lane{Taken: 99})
	}
	scribble(s.Procs, api.Process{PC: 99})
}

// busy is a machine in which all lists have something.
func busy(t *testing.T) *pair {
	t.Helper()
	c := three(of(1, "sleep r0"), of(1, "send r1 r0 r7"), of(1, "lock 0", "jump 1"), of(1, "lock 0", "jump 1"), of(0, "send r1 r0 r7", "out r0", "jump 0"))
	c.Lane, c.Fuel = 2, 4
	s := at(c, func(s *api.State) {
		s.Tick = 7
		s.Parts[1].Log = []api.Entry{entry(1, 0, 4), entry(2, 3, 5)}
		s.Parts[1].Owners, s.Parts[1].Queues = []int{2, -1}, [][]int{{3}, nil}
		s.Procs[0] = api.Process{State: api.Asleep, Wake: 50, Timer: 60, Lanes: []api.Lane{{Values: []int64{6}}, {Values: []int64{7, 8}, Waiters: []api.Waiter{who(1, 9)}}, {}, {Values: []int64{5}}}}
		s.Procs[1].State, s.Procs[1].Regs[7] = api.WaitSend, 9
		s.Procs[2].PC = 1
		s.Procs[3].State = api.WaitLock
	})
	return startAt(t, c, s)
}

func TestWhatIsHandedInIsLeftAsItWas(t *testing.T) {
	x := busy(t)
	for _, state := range []api.State{x.m.State(), at(x.p.c, func(s *api.State) { s.Procs[4].PC = 9 }), {}} {
		c, s := roomyConfig(cloneConfig(x.p.c)), roomy(clone(state))
		config, stands := openedConfig(c), opened(s)
		May(c, s)
		n, _ := New(c)
		ms := []*Machine{n}
		if m, e := Lay(c, s); e == api.OK {
			ms = append(ms, m, m.Copy())
		}
		for _, m := range ms {
			for i := range 60 {
				m.Tick()
				m.Inject(i%5, 3)
				m.State()
				m.Config()
			}
			for p := range 5 {
				m.Kill(p)
			}
		}
		if !sameConfig(openedConfig(c), config) {
			t.Errorf("the config: %+v, not %+v", openedConfig(c), config)
		}
		if !same(opened(s), stands) {
			t.Errorf("the state: %+v, not %+v", opened(s), stands)
		}
	}
}

func TestSpareRoomIsNoPart(t *testing.T) {
	x := busy(t)
	if e := May(roomyConfig(x.m.Config()), roomy(x.m.State())); e != api.OK {
		t.Errorf("May: %d", e)
	}
	y := startAt(t, roomyConfig(x.m.Config()), roomy(x.m.State()))
	c := chance(15)
	for range 100 {
		y.some(&c)
	}
	y = start(t, roomyConfig(x.m.Config()))
	for range 100 {
		y.some(&c)
	}
}

func TestNothingThatIsHandedInIsKept(t *testing.T) {
	b := busy(t)
	c, s := roomyConfig(b.m.Config()), roomy(b.m.State())
	d := roomyConfig(b.m.Config())
	m, _ := Lay(c, s)
	n, _ := New(d)
	x, y := &pair{t, m, &plain{cloneConfig(c), clone(s)}}, &pair{t, n, fresh(d)}
	by := chance(16)
	for range 100 {
		scrawlConfig(c)
		scrawl(s)
		scrawlConfig(d)
		x.look()
		y.look()
		x.some(&by)
		y.some(&by)
	}
}

func TestAnswersAreTheirOwners(t *testing.T) {
	c := chance(17)
	for i := range 200 {
		x := busy(t)
		if i > 0 {
			x = start(t, c.config())
		}
		for range 40 {
			s := x.m.State()
			other := x.m.State()
			copied := x.m.Copy()
			scrawl(s)
			scrawlConfig(x.m.Config())
			if !same(other, x.p.s) || !same(copied.State(), x.p.s) || !sameConfig(copied.Config(), x.p.c) {
				t.Fatalf("scrawled over: %+v, %+v, not %+v", other, copied.State(), x.p.s)
			}
			x.look()
			x.some(&c)
		}
	}
}

// A state that was told is not changed by what comes behind it.
func TestAStateIsNotChangedAnyMore(t *testing.T) {
	c := chance(18)
	for i := range 200 {
		x := busy(t)
		if i > 0 {
			x = start(t, c.config())
		}
		var told, want []api.State
		for range 40 {
			told, want = append(told, x.m.State()), append(want, clone(x.p.s))
			x.some(&c)
		}
		for k := range told {
			if !same(told[k], want[k]) {
				t.Fatalf("State number %d: %+v, not %+v", k, told[k], want[k])
			}
		}
	}
}

// No two lists of one answer share memory: each is written to its end alone, and all others stay.
func TestNoTwoListsOfAnAnswerShareMemory(t *testing.T) {
	x := busy(t)
	for range 3 {
		for which := 0; ; which++ {
			s := x.m.State()
			lists := numberLists(s)
			if which == len(lists) {
				break
			}
			marked(t, s, which)
		}
		c := x.m.Config()
		for i := range c.Procs {
			d := x.m.Config()
			scribble(d.Procs[i].Code, api.Ins{Op: 99})
			for k := range d.Procs {
				if k != i && !slices.Equal(d.Procs[k].Code, c.Procs[k].Code) {
					t.Errorf("the program %d by that of %d: %v", k, i, d.Procs[k].Code)
				}
			}
		}
		x.ticks(1)
	}
}

// numberLists are functions that scribble on one list each of a state.
func numberLists(s api.State) []func() {
	var out []func()
	for _, p := range s.Parts {
		out = append(out, func() { scribble(p.Log, entry(99, 99, 99)) }, func() { scribble(p.Owners, 99) })
		for _, q := range p.Queues {
			out = append(out, func() { scribble(q, 99) })
		}
	}
	for _, p := range s.Procs {
		for _, l := range p.Lanes {
			out = append(out, func() { scribble(l.Values, 99) }, func() { scribble(l.Waiters, who(99, 99)) })
		}
	}
	return out
}

// listsOf are all lists of a state, as numbers.
func listsOf(s api.State) [][]int64 {
	var out [][]int64
	for _, p := range s.Parts {
		var log, owners []int64
		for _, e := range p.Log {
			log = append(log, e.Tick, int64(e.Proc), e.Value)
		}
		for _, o := range p.Owners {
			owners = append(owners, int64(o))
		}
		out = append(out, log, owners)
		for _, q := range p.Queues {
			var row []int64
			for _, w := range q {
				row = append(row, int64(w))
			}
			out = append(out, row)
		}
	}
	for _, p := range s.Procs {
		for _, l := range p.Lanes {
			var waiters []int64
			for _, w := range l.Waiters {
				waiters = append(waiters, int64(w.Proc), w.Value)
			}
			out = append(out, slices.Clone(l.Values), waiters)
		}
	}
	return out
}

// marked scribbles on one list of a state, and asks that it is the only one that is changed.
func marked(t *testing.T, s api.State, which int) {
	t.Helper()
	before := listsOf(s)
	numberLists(s)[which]()
	for k, list := range listsOf(s) {
		if k != which && !slices.Equal(list, before[k]) {
			t.Errorf("the list %d by the list %d: %v, not %v", k, which, list, before[k])
		}
	}
}

// One program, or one list of lanes, handed in for several processes is not shared by them.
func TestOneListForSeveral(t *testing.T) {
	l := program("send r1 r0 r7", "out r0", "jump 0")
	c := three(api.Proc{Part: 1, Code: l}, api.Proc{Part: 1, Code: l}, api.Proc{Part: 0, Code: l})
	c.Lane = 3
	values := spare([]int64{4}, []int64{5, 6, 7})
	lanes := []api.Lane{{Values: values}, {Values: values}, {}, {Values: values}}
	s := at(c, func(s *api.State) {
		for p := range s.Procs {
			s.Procs[p].Lanes = lanes
			if p == 2 {
				s.Procs[p].Lanes = []api.Lane{{Values: values}, {}, {}, {}}
			}
		}
		owners := spare([]int{-1, -1}, []int{9})
		queues := make([][]int, 2)
		for i := range s.Parts {
			s.Parts[i].Owners, s.Parts[i].Queues = owners, queues
		}
	})
	x := startAt(t, c, s)
	by := chance(19)
	for range 200 {
		x.some(&by)
	}
}

// R4: the same calls have the same answers.
func TestTheSameCallsHaveTheSameAnswers(t *testing.T) {
	c := chance(20)
	for range 100 {
		config := c.config()
		x, y := start(t, config), start(t, config)
		for range 60 {
			was := c
			x.some(&c)
			c = was
			y.some(&c)
			if !same(x.m.State(), y.m.State()) || !same(x.m.State(), x.m.State()) {
				t.Fatalf("%+v, %+v", x.m.State(), y.m.State())
			}
		}
	}
}

// R1: any numbers.
func TestInjectOfAnyNumber(t *testing.T) {
	for _, v := range []int64{0, -1, math.MinInt64, math.MaxInt64, 1 << 40} {
		x := start(t, one(of(0, "recv r1 r2")))
		x.inject(0, v, api.OK)
		x.ticks(1)
		x.reg(0, 1, v)
	}
}
