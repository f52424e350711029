package twin

import (
	"math"
	"slices"
	"testing"

	"firebreak/api"
)

// must asks that two runs must look alike, and do, and had so many ticks.
func must(t *testing.T, x Twins, ticks int64) {
	t.Helper()
	if !May(x) {
		t.Errorf("May(%+v): no", x)
	}
	if is, n := Alike(x); !is || n != ticks {
		t.Errorf("Alike(%+v): %v, %d, not true, %d", x, is, n, ticks)
	}
}

// mustNot asks that two runs need not look alike, in either order.
func mustNot(t *testing.T, x Twins) {
	t.Helper()
	for range 2 {
		if May(x) {
			t.Errorf("May(%+v): yes", x)
		}
		if is, n := Alike(x); is || n != 0 {
			t.Errorf("Alike(%+v): %v, %d", x, is, n)
		}
		x = turned(x)
	}
}

// turned are the same twins, in the other order.
func turned(x Twins) Twins { return Twins{A: x.B, B: x.A, S: x.T, T: x.S, Label: x.Label} }

// same are twins of one config and one script.
func same(c api.Config, a uint64, l ...api.Step) Twins {
	return Twins{A: c, B: c, S: l, T: l, Label: a}
}

// with are twins with another script on the second side.
func with(x Twins, l ...api.Step) Twins {
	x.T = l
	return x
}

// changed is a config in which something is changed.
func changed(c api.Config, change func(c *api.Config)) api.Config {
	c.Labels, c.Table, c.Procs = slices.Clone(c.Labels), slices.Clone(c.Table), slices.Clone(c.Procs)
	for i := range c.Procs {
		c.Procs[i].Code = slices.Clone(c.Procs[i].Code)
	}
	change(&c)
	return c
}

// P19.1: May, and Alike with it.

func TestMayOfTheExamples(t *testing.T) {
	x := same(chapter(), 0, ticks(2), inject(1, 5), ticks(1))
	must(t, x, 3)
	must(t, with(x, ticks(2), kill(1), ticks(1)), 3)
	mustNot(t, with(x, ticks(3)))
	mustNot(t, with(x, ticks(2), inject(0, 5), ticks(1)))
	x.B = changed(x.A, func(c *api.Config) { c.Procs[1] = of(1, "exit") })
	must(t, x, 3)
	x.B = changed(x.A, func(c *api.Config) { c.Procs[0] = of(0, "exit") })
	mustNot(t, x)
}

func TestMayOfTheSame(t *testing.T) {
	for _, c := range []api.Config{chapter(), one(0), one(5), busy(0, 1, 3), busy(1, 2)} {
		for _, a := range []uint64{0, 1, 2, 3, math.MaxUint64} {
			must(t, same(c, a), 0)
			must(t, same(c, a, ticks(1)), 1)
			must(t, same(c, a, ticks(20), inject(0, 4), kill(3), ticks(22)), 42)
		}
	}
}

// badConfigs are such as may not be, each by another part.
func badConfigs() []api.Config {
	change := func(what func(c *api.Config)) api.Config { return changed(chapter(), what) }
	return []api.Config{
		{},
		change(func(c *api.Config) { c.Labels = nil }),
		change(func(c *api.Config) { c.Labels = []uint64{1, 0} }),
		change(func(c *api.Config) { c.Labels = []uint64{1, 1} }),
		change(func(c *api.Config) { c.Labels = []uint64{0, 1, 2, 3, 4, 5, 6, 7, 8} }),
		change(func(c *api.Config) { c.Table = nil }),
		change(func(c *api.Config) { c.Table = []int{0, 2} }),
		change(func(c *api.Config) { c.Table = []int{-1} }),
		change(func(c *api.Config) { c.Table = make([]int, 65) }),
		change(func(c *api.Config) { c.Fuel = 0 }),
		change(func(c *api.Config) { c.Fuel = 257 }),
		change(func(c *api.Config) { c.Lane = 0 }),
		change(func(c *api.Config) { c.Lane = 65 }),
		change(func(c *api.Config) { c.Locks = -1 }),
		change(func(c *api.Config) { c.Locks = 9 }),
		change(func(c *api.Config) { c.Log = -1 }),
		change(func(c *api.Config) { c.Log = 4097 }),
		change(func(c *api.Config) { c.Procs = nil }),
		change(func(c *api.Config) { c.Procs = make([]api.Proc, 33) }),
		change(func(c *api.Config) { c.Procs[1].Part = 2 }),
		change(func(c *api.Config) { c.Procs[0].Part = -1 }),
		change(func(c *api.Config) { c.Procs[1].Code = []api.Ins{{Op: 99}} }),
		change(func(c *api.Config) { c.Procs[1].Code = []api.Ins{{Op: api.OpLock, Imm: 1}} }),
		change(func(c *api.Config) { c.Procs[0].Code = make([]api.Ins, 257) }),
	}
}

// A config that may not be, on either side, on both, and on both the same one.
func TestMayOfConfigsThatMayNotBe(t *testing.T) {
	for _, c := range badConfigs() {
		for _, a := range []uint64{0, 1, math.MaxUint64} {
			for _, l := range [][]api.Step{nil, {ticks(1)}, {ticks(2), inject(1, 5), kill(0)}} {
				mustNot(t, Twins{A: c, B: chapter(), S: l, T: l, Label: a})
				mustNot(t, same(c, a, l...))
			}
		}
	}
	bad := badConfigs()
	for i, c := range bad {
		mustNot(t, Twins{A: c, B: bad[(i+1)%len(bad)]})
	}
}

// A program that may not be is no less wrong where the observer doesn't look.
func TestMayOfHiddenProgramsThatMayNotBe(t *testing.T) {
	x := same(chapter(), 0, ticks(2))
	for _, code := range [][]api.Ins{{{Op: 99}}, {{Op: -1}}, {{Op: api.OpJump, Imm: 2}}, {{Op: api.OpLock, Imm: 1}}, {{Op: api.OpExit, A: 1}}, {{Op: api.OpSet, A: 8}}, make([]api.Ins, 257)} {
		x.B = changed(x.A, func(c *api.Config) { c.Procs[1].Code = code })
		mustNot(t, x)
		mustNot(t, Twins{A: x.B, B: x.B, S: x.S, T: x.T})
	}
}

// skeletons are changes of each of its fields, by which a config of four partitions still may be.
func skeletons() []func(c *api.Config) {
	return []func(c *api.Config){
		func(c *api.Config) { c.Labels[0] = 1 },
		func(c *api.Config) { c.Labels[1] = 3 },
		func(c *api.Config) { c.Labels[3] = 1 << 63 },
		func(c *api.Config) { c.Labels = append(c.Labels, 1<<40) },
		func(c *api.Config) { c.Table[0] = 1 },
		func(c *api.Config) { c.Table[3] = 0 },
		func(c *api.Config) { c.Table = append(c.Table, 0) },
		func(c *api.Config) { c.Table = c.Table[:3] },
		func(c *api.Config) { c.Table = slices.Concat(c.Table, c.Table) },
		func(c *api.Config) { c.Fuel++ },
		func(c *api.Config) { c.Fuel = 256 },
		func(c *api.Config) { c.Lane++ },
		func(c *api.Config) { c.Locks++ },
		func(c *api.Config) { c.Log++ },
		func(c *api.Config) { c.Log = 0 },
		func(c *api.Config) { c.Procs = append(c.Procs, of(3)) },
		func(c *api.Config) { c.Procs = append(c.Procs, of(0)) },
		func(c *api.Config) { c.Procs = c.Procs[:len(c.Procs)-1] },
		func(c *api.Config) { c.Procs[0].Part = 1 },
		func(c *api.Config) { c.Procs[29].Part = 2 },
		func(c *api.Config) { c.Procs[30].Part = 0 },
	}
}

// roomy is a config of four partitions, with 31 processes.
func roomy() api.Config {
	c := busy(0, 2, 4, 6)
	c.Procs = append(c.Procs[:30], of(3, "now r1", "jump 0"))
	return c
}

func TestMayOfOtherSkeletons(t *testing.T) {
	c := roomy()
	for _, change := range skeletons() {
		for _, a := range []uint64{0, 1, 2, 3, 6, 1 << 63, math.MaxUint64} {
			x := same(c, a, ticks(9))
			must(t, x, 9)
			x.B = changed(c, change)
			mustNot(t, x)
			mustNot(t, Twins{A: x.A, B: x.B, Label: a})
		}
	}
}

// others are programs that differ from the first one in one field of one instruction, or in length.
func others() [][]api.Ins {
	program := func(lines ...string) []api.Ins { return of(0, lines...).Code }
	return [][]api.Ins{
		program("set r1 5", "add r1 r2 r3", "recv r3 r4", "jump 0"),
		program("set r1 6", "add r1 r2 r3", "recv r3 r4", "jump 0"),
		program("set r2 5", "add r1 r2 r3", "recv r3 r4", "jump 0"),
		program("set r1 5", "sub r1 r2 r3", "recv r3 r4", "jump 0"),
		program("set r1 5", "add r0 r2 r3", "recv r3 r4", "jump 0"),
		program("set r1 5", "add r1 r3 r3", "recv r3 r4", "jump 0"),
		program("set r1 5", "add r1 r2 r4", "recv r3 r4", "jump 0"),
		program("set r1 5", "add r1 r2 r3", "try r3 r4", "jump 0"),
		program("set r1 5", "add r1 r2 r3", "recv r3 r4", "jump 1"),
		program("set r1 1099511627781", "add r1 r2 r3", "recv r3 r4", "jump 0"),
		program("set r1 f-0e0", "add r1 r2 r3", "recv r3 r4", "jump 0"),
		program("set r1 5", "add r1 r2 r3", "recv r3 r4"),
		program("set r1 5", "add r1 r2 r3", "recv r3 r4", "jump 0", "exit"),
		program("set r1 5", "recv r3 r4", "add r1 r2 r3", "jump 0"),
		{},
	}
}

// Each of two programs, on a process that is seen, and on one that isn't.
func TestMayOfOtherPrograms(t *testing.T) {
	for i, first := range others() {
		for j, second := range others() {
			for p := range 2 {
				a := changed(chapter(), func(c *api.Config) { c.Procs[p].Code = first })
				b := changed(chapter(), func(c *api.Config) { c.Procs[p].Code = second })
				for _, label := range []uint64{0, 1, 2, math.MaxUint64} {
					x := Twins{A: a, B: b, S: []api.Step{ticks(3), inject(p, 5), ticks(3)}, Label: label}
					x.T = x.S
					if i != j && plainSees(a, p, label) {
						mustNot(t, x)
					} else {
						must(t, x, 6)
					}
				}
			}
		}
	}
}

// The last of many processes counts as the first one does.
func TestMayAsksForTheProgramsOfAll(t *testing.T) {
	c := roomy()
	for p := range c.Procs {
		for _, a := range []uint64{1, 0, 2, 3, 4, 6, math.MaxUint64} {
			x := same(c, a, ticks(4))
			x.B = changed(c, func(c *api.Config) { c.Procs[p].Code = append(c.Procs[p].Code, api.Ins{}) })
			if plainSees(c, p, a) {
				mustNot(t, x)
			} else {
				must(t, x, 4)
			}
		}
	}
}

// P19.1: what scripts may differ in, step by step.

func TestMayOfStepsThatDiffer(t *testing.T) {
	// Of each two the rest differs, in Kind, N or V alone, or in length, for whoever sees the process 0.
	ahead, behind := []api.Step{ticks(2), inject(1, 5)}, []api.Step{kill(1), ticks(1), inject(0, 3)}
	for _, two := range [][2][]api.Step{
		{{ticks(1)}, {ticks(2)}},
		{{ticks(1)}, {stepOf(1, 1, 1)}},
		{{ticks(1)}, {stepOf(0, 1, 0)}},
		{{ticks(0)}, {ticks(-1)}},
		{{ticks(65537)}, {ticks(65538)}},
		{{ticks(2)}, {ticks(1), ticks(1)}},
		{{ticks(0)}, {}},
		{{ticks(0)}, {inject(0, 0)}},
		{{inject(0, 0)}, {kill(0)}},
		{{inject(0, 1)}, {inject(0, 2)}},
		{{inject(0, 1)}, {inject(0, 1+1<<32)}},
		{{inject(0, 1)}, {inject(2, 1)}},
		{{inject(0, 1)}, {}},
		{{inject(0, 1)}, {inject(0, 1), inject(0, 1)}},
		{{inject(0, 1), kill(0)}, {kill(0), inject(0, 1)}},
		{{inject(0, 1)}, {ticks(1), inject(0, 1)}},
		{{kill(0)}, {stepOf(3, 0, 1)}},
		{{kill(0)}, {stepOf(4, 0, 0)}},
		{{stepOf(0, 0, 0)}, {}},
		{{stepOf(0, 0, 0)}, {stepOf(0, 0, 1)}},
		{{stepOf(0, 0, 0)}, {stepOf(0, 1, 0)}},
		{{stepOf(0, 0, 0)}, {stepOf(4, 0, 0)}},
		{{stepOf(1<<32+1, 1, 0)}, {ticks(1)}},
		{{stepOf(-1, 1, 0)}, {stepOf(-2, 1, 0)}},
	} {
		x := same(chapter(), 0)
		x.S, x.T = two[0], two[1]
		mustNot(t, x)
		x.S, x.T = slices.Concat(ahead, two[0]), slices.Concat(ahead, two[1])
		mustNot(t, x)
		x.S, x.T = slices.Concat(ahead, two[0], behind), slices.Concat(ahead, two[1], behind)
		mustNot(t, x)
		x.S, x.T = slices.Concat(two[0], behind), slices.Concat(two[1], behind)
		mustNot(t, x)
	}
}

func TestMayOfHiddenStepsThatDiffer(t *testing.T) {
	x := same(chapter(), 0, ticks(2), ticks(1))
	for _, l := range [][]api.Step{
		{inject(1, 5)}, {inject(1, -5)}, {kill(1)}, {stepOf(3, 1, 7)}, {kill(1), kill(1)}, {kill(1), inject(1, 1)}, {inject(1, 1), kill(1)},
		{inject(2, 1)}, {kill(2)}, {inject(-1, 1)}, {kill(-1)}, {kill(math.MinInt)}, {inject(math.MaxInt, 3)}, {inject(1<<32, 0)}, {kill(1 << 32)},
		slices.Repeat([]api.Step{inject(1, 8)}, 50),
	} {
		must(t, with(x, slices.Concat(l, x.S)...), 3)
		must(t, with(x, slices.Concat(x.S, l)...), 3)
		must(t, with(x, slices.Concat(x.S[:1], l, x.S[1:])...), 3)
		must(t, turned(with(x, slices.Concat(l, x.S[:1], l, x.S[1:], l)...)), 3)
	}
}

// Fields that a kind doesn't name make a difference where they differ, and none else.
func TestMayOfFieldsThatAKindDoesNotName(t *testing.T) {
	must(t, same(chapter(), 0, stepOf(1, 2, 9), stepOf(3, 0, 9), stepOf(0, 5, 9), stepOf(9, -5, -9), stepOf(1, 1, -1)), 3)
	mustNot(t, with(same(chapter(), 0, stepOf(1, 2, 9)), stepOf(1, 2, 8)))
	mustNot(t, with(same(chapter(), 0, stepOf(3, 0, 9)), stepOf(3, 0, 8)))
	must(t, with(same(chapter(), 0, stepOf(3, 1, 9)), stepOf(3, 1, 8)), 0)
}

// P19.1: how many steps and ticks there may be.

func TestMayOfAsManyStepsAsThereMayBe(t *testing.T) {
	many := func(n int, s api.Step) []api.Step { return slices.Repeat([]api.Step{s}, n) }
	hidden, shown, tick := inject(1, 5), inject(0, 5), ticks(2)
	for _, n := range []int{0, 1, 1023, 1024} {
		must(t, same(chapter(), 0, many(n, hidden)...), 0)
		must(t, same(chapter(), 0, many(n, shown)...), 0)
		must(t, same(chapter(), 0, many(n, tick)...), int64(2*n))
		must(t, Twins{A: chapter(), B: chapter(), S: many(n, hidden)}, 0)
		must(t, turned(Twins{A: chapter(), B: chapter(), S: many(n, hidden)}), 0)
		must(t, Twins{A: chapter(), B: chapter(), S: many(n, hidden), T: many(1024, kill(9))}, 0)
	}
	for _, n := range []int{1025, 1026, 2048, 1024 + 1<<16} {
		for _, step := range []api.Step{hidden, shown, tick, ticks(0), kill(9), stepOf(0, 0, 0)} {
			mustNot(t, same(chapter(), 0, many(n, step)...))
		}
		mustNot(t, Twins{A: chapter(), B: chapter(), S: many(n, hidden)})
		mustNot(t, Twins{A: chapter(), B: chapter(), S: many(n, hidden), T: many(1024, hidden)})
		mustNot(t, Twins{A: chapter(), B: chapter(), S: many(n, hidden), T: many(n+1, kill(9))})
		mustNot(t, Twins{A: chapter(), B: chapter(), S: append(many(n-1, hidden), tick), T: []api.Step{tick}})
	}
}

func TestTicksThatThereWere(t *testing.T) {
	for _, x := range []struct {
		want int64
		n    []int
	}{
		{65536, []int{65536}}, {65536, []int{65535, 1}}, {65536, []int{1, 65535, 1}}, {65536, []int{65535, 2, 1, 1}},
		{0, []int{65537}}, {0, []int{65537, 1 << 31, 1 << 32, 1<<32 + 1, 1 << 62, math.MaxInt}}, {5, []int{65537, 5, 65536}},
		{65530, []int{65530, 7, 65536, math.MaxInt}}, {65536, []int{65530, 7, 6}},
		{0, []int{0, -1, math.MinInt, -65536}}, {7, []int{0, 3, -1, 4, math.MinInt}}, {3, []int{math.MaxInt, 3, math.MaxInt}}, {65536, []int{0, 65536, 0, 1}},
	} {
		var l []api.Step
		for _, n := range x.n {
			l = append(l, ticks(n), inject(0, int64(n)))
		}
		must(t, same(chapter(), 0, l...), x.want)
		must(t, with(same(chapter(), 0, l...), slices.Insert(slices.Clone(l), 1, kill(1), inject(1, 7))...), x.want)
	}
}

// P19.1: of all twins, hand-made ones too.

func TestMayIsWhatTheChapterSays(t *testing.T) {
	c := chance(4)
	var yes, no int
	for range 6000 {
		x := c.twins()
		c.spoil(&x)
		want := plainMay(x)
		if got := May(x); got != want {
			t.Fatalf("May(%+v): %v", x, got)
		}
		if want {
			yes++
		} else {
			no++
			mustNot(t, x)
		}
	}
	if yes < 1500 || no < 1500 {
		t.Errorf("%d may, %d may not", yes, no)
	}
}

// spoil changes something in the second of two twins, often enough something that is seen.
func (c *chance) spoil(x *Twins) {
	steps := slices.Clone(x.T)
	x.B = changed(x.B, func(*api.Config) {})
	i, p := c.next(len(steps)), c.next(len(x.B.Procs))
	switch c.next(12) {
	case 0:
		steps[i] = c.step()
	case 1:
		steps[i].V++
	case 2:
		steps[i].N = c.next(11)
	case 3:
		steps[i].Kind = c.next(5)
	case 4:
		steps = slices.Delete(steps, i, i+1)
	case 5:
		steps = slices.Insert(steps, i, c.step())
	case 6:
		x.Label = c.label(x.A)
	case 7:
		x.B.Procs[p].Code = append(x.B.Procs[p].Code, api.Ins{})
	case 8:
		x.B.Procs[p].Part = c.next(len(x.B.Labels) + 1)
	case 9:
		x.B.Fuel += c.next(2)
	}
	x.T = steps
}

// Whatever is handed in, there is an answer.
func TestWildTwins(t *testing.T) {
	configs := append(badConfigs(), chapter(), one(0), busy(0, 1), api.Config{Labels: make([]uint64, 1000), Table: wild, Fuel: math.MinInt, Lane: math.MaxInt, Locks: -1, Log: math.MaxInt, Procs: make([]api.Proc, 1000)})
	var all []api.Step
	for _, kind := range append([]int{1, 2, 3}, noKinds...) {
		for _, n := range wild {
			all = append(all, stepOf(kind, n, int64(n)))
		}
	}
	scripts := [][]api.Step{nil, all, {ticks(1)}, slices.Repeat(all, 20)}
	for _, a := range configs {
		for _, b := range configs {
			for i, s := range scripts {
				for _, label := range []uint64{0, 1, math.MaxUint64} {
					x := Twins{A: a, B: b, S: s, T: scripts[(i+int(label&1))%len(scripts)], Label: label}
					want := plainMay(x)
					if May(x) != want {
						t.Errorf("May(%+v): %v", x, !want)
					}
					if is, n := Alike(x); is != want || !is && n != 0 {
						t.Errorf("Alike(%+v): %v, %d", x, is, n)
					}
				}
			}
		}
	}
}
