package twin

import (
	"math"
	"slices"
	"testing"

	"firebreak/api"
)

// P19.2: Alike is true of all twins of which May is.

// alike asks that twins must look alike, and do, behind each tick, as they are held against each other on machines of their own.
func alike(t *testing.T, x Twins) int64 {
	t.Helper()
	is, n := plainTogether(t, x)
	if !is {
		t.Fatalf("%+v: something is seen behind %d ticks", x, n)
	}
	must(t, x, n)
	must(t, turned(x), n)
	return n
}

func TestTwinsLookAlike(t *testing.T) {
	c := chance(1)
	var ticks int64
	unlike := 0
	for range 1500 {
		x := c.twins()
		ticks += alike(t, x)
		x.Label = math.MaxUint64
		if is, _ := plainTogether(t, x); !is {
			unlike++
		}
	}
	if ticks < 20000 || unlike < 500 {
		t.Errorf("%d ticks, %d of which there was something to be hidden", ticks, unlike)
	}
}

// busyScript has all kinds of steps for all of a machine's processes.
func busyScript(c api.Config) []api.Step {
	var l []api.Step
	for p := range c.Procs {
		l = append(l, ticks(3), inject(p, int64(p)), inject((p*5+2)%len(c.Procs), -1), ticks(p%4))
		if p%5 == 3 {
			l = append(l, kill(p), inject(p, 1), stepOf(0, p, 0))
		}
	}
	return l
}

// Other programs, other scripts, and both, below, above and beside what is seen; with messages, locks, timers and kills.
func TestBusyTwinsLookAlike(t *testing.T) {
	for _, c := range []api.Config{one(0), one(6), busy(0, 1), busy(1, 2), busy(0, 1, 2, 3), busy(1, 3, 7, 15)} {
		for _, a := range []uint64{0, 1, 2, 7, 8, math.MaxUint64} {
			x := same(c, a, busyScript(c)...)
			alike(t, x)
			for seed := range 2 {
				chance := chance(seed + 10)
				b, steps := chance.hide(c, x.S, a)
				alike(t, Twins{A: c, B: b, S: x.S, T: x.S, Label: a})
				alike(t, Twins{A: c, B: c, S: x.S, T: steps, Label: a})
				alike(t, Twins{A: c, B: b, S: x.S, T: steps, Label: a})
			}
		}
	}
}

// What is not seen may have ended, or be full, or never have been sent to: the sender below can't tell.
func TestTheSenderCanNotTell(t *testing.T) {
	c := api.Config{Labels: []uint64{0, 1}, Table: []int{0, 1}, Fuel: 4, Lane: 1, Locks: 1, Log: 9,
		Procs: []api.Proc{of(0, "set r0 1", "send r2 r0 r1", "out r2", "jump 1"), of(1)}}
	x := same(c, 0, ticks(30))
	for _, lines := range [][]string{{"exit"}, {"jump 0"}, {"recv r1 r2", "jump 0"}, {"try r1 r2", "jump 0"}, {"lock 0", "jump 1"}, {"send r1 r0 r0", "jump 0"}} {
		x.B = changed(c, func(c *api.Config) { c.Procs[1] = of(1, lines...) })
		for _, l := range [][]api.Step{x.S, {kill(1), ticks(30)}, {ticks(30), kill(1)}, {inject(1, 1), ticks(30)}} {
			if n := alike(t, with(x, l...)); n != 30 {
				t.Errorf("%d ticks", n)
			}
		}
	}
}

// So many ticks as there may be are all gone through.
func TestTwinsOfAsManyTicksAsThereMayBe(t *testing.T) {
	x := same(one(1), 0, ticks(65536))
	if n := alike(t, with(x, kill(0), ticks(65536), inject(0, 1))); n != 65536 {
		t.Errorf("%d ticks", n)
	}
	x = same(one(1), 1, inject(0, 4), ticks(65537), ticks(65535), ticks(2), ticks(1), ticks(1))
	if n := alike(t, x); n != 65536 {
		t.Errorf("%d ticks", n)
	}
}

// Twins that need not look alike are gone through by together, as others are: it tells when they part.

// apart asks that two runs part behind so many ticks, and no sooner.
func apart(t *testing.T, x Twins, want int64) {
	t.Helper()
	for range 2 {
		if is, n := together(x); is || n != want {
			t.Errorf("together(%+v): %v, %d, not false, %d", x, is, n, want)
		}
		if is, n := plainTogether(t, x); is || n != want {
			t.Errorf("plainTogether(%+v): %v, %d, not false, %d", x, is, n, want)
		}
		x = turned(x)
	}
}

func TestScriptsPart(t *testing.T) {
	x := same(chapter(), 0)
	x.S = []api.Step{ticks(2), ticks(2), ticks(0), ticks(1)}
	for n, at := range []int64{0, 2, 4, 4, 5} {
		for _, s := range []api.Step{inject(0, 1), kill(0)} {
			apart(t, with(x, slices.Insert(slices.Clone(x.S), n, s)...), at)
			apart(t, with(x, slices.Insert(slices.Clone(x.S), n, kill(1), s, inject(1, 1))...), at)
		}
	}
	x.S = []api.Step{ticks(3), inject(0, 1), ticks(3)}
	apart(t, with(x, ticks(3), inject(0, 2), ticks(3)), 3)
	apart(t, with(x, ticks(4), inject(0, 1), ticks(2)), 3)
	apart(t, with(x, ticks(1), inject(0, 1), ticks(5)), 1)
	apart(t, with(x, ticks(6)), 3)
}

// programsOf are twins whose first processes have those programs.
func programsOf(first, second []string, l ...api.Step) Twins {
	x := same(chapter(), 0, l...)
	x.A = changed(x.A, func(c *api.Config) { c.Fuel, c.Procs[0] = 1, of(0, first...) })
	x.B = changed(x.A, func(c *api.Config) { c.Procs[0] = of(0, second...) })
	return x
}

func TestProgramsPart(t *testing.T) {
	// The partition 0 has the ticks 0, 2, 4, .. and one unit in each.
	apart(t, programsOf([]string{"set r1 5"}, []string{"set r1 6"}, ticks(9)), 1)
	apart(t, programsOf([]string{"set r1 5", "set r2 7"}, []string{"set r1 5", "set r2 8"}, ticks(9)), 3)
	apart(t, programsOf([]string{"jump 1", "jump 2", "out r1"}, []string{"jump 1", "jump 2", "exit"}, ticks(9)), 5)
	apart(t, programsOf([]string{"recv r1 r2", "jump 0"}, []string{"recv r1 r3", "jump 0"}, ticks(4), inject(0, 0), ticks(5)), 5)
	// Behind the fourth tick both stand alike again: what was seen was seen.
	apart(t, programsOf([]string{"now r1", "set r2 3", "set r1 0"}, []string{"now r1", "set r1 1", "set r1 0"}, ticks(9)), 3)
	apart(t, programsOf([]string{"now r1", "set r1 3", "set r1 0", "jump 3"}, []string{"now r1", "set r1 4", "set r1 0", "jump 3"}, ticks(19)), 3)
	// What is never done is never seen.
	for _, n := range []int{0, 1, 2} {
		if is, at := together(programsOf([]string{"jump 0"}, []string{"jump 0", "exit"}, ticks(n))); !is || at != int64(n) {
			t.Errorf("%v, %d, not true, %d", is, at, n)
		}
	}
}

// A step that takes all ticks that are left is gone through tick by tick like any other.
func TestProgramsPartWithinTheLastTicks(t *testing.T) {
	first, second := []string{"recv r1 r2"}, []string{"recv r2 r1"}
	for _, x := range []struct {
		ahead, last int
		want        int64
	}{{0, 65536, 1}, {0, 65535, 1}, {65500, 36, 65501}, {65500, 35, 65501}, {65534, 2, 65535}} {
		is, n := together(programsOf(first, second, ticks(x.ahead), inject(0, 7), ticks(x.last)))
		if is || n != x.want {
			t.Errorf("%d ticks and %d: %v, %d, not false, %d", x.ahead, x.last, is, n, x.want)
		}
	}
}

// Whose slot the last one was is told to everybody.
func TestOwnersPart(t *testing.T) {
	x := same(chapter(), 0, ticks(5))
	x.A.Labels, x.B.Labels = []uint64{1, 2}, []uint64{1, 2}
	x.B.Table = []int{0, 0}
	apart(t, x, 2)
	x.A.Table, x.B.Table = []int{0, 1, 0, 0}, []int{0, 1, 0, 1}
	apart(t, x, 4)
	x.B.Table = []int{1, 1, 0, 0}
	apart(t, x, 1)
	x.B.Table = []int{0, 1, 0, 0, 1}
	apart(t, x, 5)
}

// Steps between two ticks are all done when it is asked: in which order makes no difference, if both stand alike behind them.
func TestOnlyWhatStandsBehindAllStepsIsAsked(t *testing.T) {
	c := chapter()
	x := same(c, 1, ticks(2), inject(0, 1), kill(1), ticks(2), inject(1, 4))
	x.T = []api.Step{ticks(2), kill(1), inject(0, 1), ticks(0), ticks(1), ticks(1)}
	if is, n := together(x); !is || n != 4 {
		t.Errorf("%v, %d, not true, 4", is, n)
	}
	x.S, x.T = []api.Step{inject(0, 1), kill(0)}, []api.Step{inject(0, 1), ticks(70000), kill(0), inject(0, 1)}
	if is, n := together(x); !is || n != 0 {
		t.Errorf("%v, %d, not true, 0", is, n)
	}
}

// One run that goes on where the other one is over has parted from it.
func TestScriptsOfOtherLengthsPart(t *testing.T) {
	for _, two := range [][2]int{{0, 1}, {1, 2}, {2, 7}, {5, 6}, {65535, 65536}} {
		x := same(one(1), 0)
		if two[0] > 0 {
			x.S = []api.Step{ticks(two[0])}
		}
		x.T = append(slices.Clone(x.S), ticks(two[1]-two[0]))
		if is, _ := together(x); is {
			t.Errorf("%d and %d ticks: alike", two[0], two[1])
		}
		if is, _ := together(turned(x)); is {
			t.Errorf("%d and %d ticks: alike", two[1], two[0])
		}
	}
}

func TestTogetherIsWhatTheChapterSays(t *testing.T) {
	c := chance(6)
	var first, later, yes int
	for range 3000 {
		x := c.twins()
		c.change(&x)
		want, at := plainTogether(t, x)
		if is, n := together(x); is != want || n != at {
			t.Fatalf("together(%+v): %v, %d, not %v, %d", x, is, n, want, at)
		}
		switch {
		case want:
			yes++
		case at == 0:
			first++
		default:
			later++
		}
	}
	if yes < 300 || first < 100 || later < 300 {
		t.Errorf("%d alike, %d part at first, %d later", yes, first, later)
	}
}

// change puts other programs in the place of the second's, often of such as are seen, or other injections and kills.
func (c *chance) change(x *Twins) {
	x.B = changed(x.B, func(*api.Config) {})
	x.T = slices.Clone(x.T)
	p := c.next(len(x.B.Procs))
	switch c.next(3) {
	case 0:
		x.B.Procs[p] = of(x.B.Procs[p].Part, c.program(9)...)
	case 1:
		x.T = slices.Insert(x.T, c.next(len(x.T)+1), inject(p, 3))
	case 2:
		x.T = slices.Insert(x.T, c.next(len(x.T)+1), kill(p))
	}
	if c.next(2) == 0 {
		x.Label = math.MaxUint64
	}
}
