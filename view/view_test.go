package view

import (
	"math"
	"slices"
	"testing"

	"firebreak/api"
	"firebreak/machine"
)

// sees asks whether a process is seen, told in both ways.
func sees(t *testing.T, c api.Config, p int, a uint64, want bool) {
	t.Helper()
	if got := Sees(c, p, a); got != want || plainSees(c, p, a) != want {
		t.Errorf("Sees(%+v, %d, %#x): %t, not %t", c, p, a, got, want)
	}
}

// tells asks what is told of a state, and is told that.
func tells(t *testing.T, c api.Config, s api.State, a uint64) api.State {
	t.Helper()
	got, want := Of(c, s, a), plainOf(c, s, a)
	if stand(got) != stand(want) {
		t.Errorf("Of(%+v, %+v, %#x): %+v, not %+v", c, s, a, got, want)
	}
	return got
}

// alikes asks whether two states are the same, in both orders.
func alikes(t *testing.T, way string, a, b api.State, want bool) {
	t.Helper()
	if Same(a, b) != want || Same(b, a) != want {
		t.Errorf("%s: Same(%+v, %+v): not %t", way, a, b, want)
	}
}

// P18.1: the chapter's examples.

func TestExampleOfSees(t *testing.T) {
	c := chapter()
	sees(t, c, 1, 1, true)
	sees(t, c, 1, 3, true)
	sees(t, c, 1, 2, false)
	sees(t, c, 4, 3, false)
	sees(t, c, 0, 0, true)
}

func TestExampleOfOf(t *testing.T) {
	c, s := chapter(), filled(4, 4, 2)
	got := tells(t, c, s, 2)
	want := clone(s)
	want.Parts[1], want.Parts[3] = api.Part{}, api.Part{}
	want.Procs[1], want.Procs[3] = api.Process{}, api.Process{}
	if stand(got) != stand(want) {
		t.Errorf("Of: %+v, not %+v", got, want)
	}
	if got := tells(t, c, s, math.MaxUint64); stand(got) != stand(s) {
		t.Errorf("Of: %+v, not %+v", got, s)
	}
}

// P18.1: Sees.

func TestSees(t *testing.T) {
	for _, c := range configs() {
		for p := -3; p < len(c.Procs)+3; p++ {
			for _, a := range labels {
				sees(t, c, p, a, plainSees(c, p, a))
			}
		}
		for _, p := range wild {
			for _, a := range labels {
				sees(t, c, p, a, plainSees(c, p, a))
			}
		}
	}
}

func TestSeesOfNoProcess(t *testing.T) {
	c := busy(0, 1, 2, 3)
	for _, a := range labels {
		for _, p := range wild {
			if p < 0 || p >= len(c.Procs) {
				sees(t, c, p, a, false)
			}
		}
		sees(t, c, len(c.Procs), a, false)
		sees(t, api.Config{}, 0, a, false)
		sees(t, api.Config{Labels: []uint64{0}}, 0, a, false)
	}
	sees(t, c, len(c.Procs)-1, 3, true)
}

func TestSeesOfAPartitionThatIsNone(t *testing.T) {
	c := api.Config{Labels: make([]uint64, 7), Procs: []api.Proc{{Part: 6}, {}}}
	for _, part := range append([]int{7, 8}, wild...) {
		c.Procs[1].Part = part
		for _, a := range labels {
			sees(t, c, 0, a, true)
			sees(t, c, 1, a, false)
		}
	}
	sees(t, api.Config{Procs: []api.Proc{{}}}, 0, math.MaxUint64, false)
}

// What stands in the spare room of a config's lists is none of it.
func TestSeesNothingInSpareRoom(t *testing.T) {
	room := api.Config{Labels: []uint64{0, 0, 0}, Procs: []api.Proc{{Part: 1}, {Part: 2}, {Part: 0}}}
	c := api.Config{Labels: room.Labels[:2], Procs: room.Procs[:2]}
	sees(t, c, 0, 0, true)
	sees(t, c, 1, 0, false)
	sees(t, c, 2, 0, false)
}

// Each of the 64 secrets hides what it is in from those who don't know it, and from nobody else.
func TestEachSecret(t *testing.T) {
	c := api.Config{}
	for secret := range 64 {
		c.Labels = append(c.Labels, 1<<secret)
		c.Procs = append(c.Procs, api.Proc{Part: secret})
	}
	s := filled(64, 64, 1)
	for secret := range 64 {
		a := uint64(1) << secret
		for p := range 64 {
			sees(t, c, p, a, p == secret)
			sees(t, c, p, ^a, p != secret)
			sees(t, c, p, 0, false)
			sees(t, c, p, math.MaxUint64, true)
		}
		tells(t, c, s, a)
		tells(t, c, s, ^a)
	}
}

// Programs, the table and the other numbers of a config hide nothing.
func TestSeesByLabelsAlone(t *testing.T) {
	full := busy(0, 1, 2, 3)
	bare := api.Config{Labels: full.Labels}
	for _, p := range full.Procs {
		bare.Procs = append(bare.Procs, api.Proc{Part: p.Part})
	}
	s := filled(4, len(full.Procs), 1)
	for _, a := range labels {
		for p := range full.Procs {
			if Sees(full, p, a) != Sees(bare, p, a) {
				t.Errorf("Sees(%d, %#x)", p, a)
			}
		}
		if stand(Of(full, s, a)) != stand(Of(bare, s, a)) {
			t.Errorf("Of(%#x)", a)
		}
	}
}

// P18.1: Of.

func TestOf(t *testing.T) {
	states := states(t)
	for _, c := range configs() {
		for _, s := range states {
			for _, a := range labels {
				got := tells(t, c, s, a)
				alikes(t, "of the plain one", got, plainOf(c, s, a), true)
				if got.Tick != s.Tick || len(got.Parts) != len(s.Parts) || len(got.Procs) != len(s.Procs) {
					t.Errorf("Of(%+v, %+v, %#x): %+v", c, s, a, got)
				}
			}
		}
	}
}

func TestOfWhoSeesAllSomeAndNone(t *testing.T) {
	c := busy(1, 3, 5)
	s := filled(3, len(c.Procs), 2)
	for _, a := range []uint64{7, 15, 1<<63 | 7, math.MaxUint64} {
		if got := tells(t, c, s, a); stand(got) != stand(s) {
			t.Errorf("Of(%#x): %+v", a, got)
		}
	}
	none := api.State{Tick: s.Tick, Parts: make([]api.Part, 3), Procs: make([]api.Process, len(c.Procs))}
	for _, a := range []uint64{0, 2, 4, 6, math.MaxUint64 - 1} {
		if got := tells(t, c, s, a); stand(got) != stand(none) {
			t.Errorf("Of(%#x): %+v", a, got)
		}
	}
	got := tells(t, c, s, 3)
	for i, p := range s.Procs {
		if (stand(got.Procs[i]) == stand(p)) != (c.Procs[i].Part < 2) || (stand(got.Procs[i]) == stand(api.Process{})) != (c.Procs[i].Part == 2) {
			t.Errorf("the process %d: %+v", i, got.Procs[i])
		}
	}
}

// What is none of the config's is not told to anybody, and what the state doesn't have is not there.
func TestOfStatesOfOtherSizes(t *testing.T) {
	c := chapter()
	for parts := range 10 {
		for procs := range 10 {
			s := filled(parts, procs, 1)
			got := tells(t, c, s, math.MaxUint64)
			if len(got.Parts) != parts || len(got.Procs) != procs {
				t.Errorf("%d and %d: %+v", parts, procs, got)
			}
			for i, p := range got.Parts {
				if (stand(p) == stand(api.Part{})) != (i >= 4) {
					t.Errorf("%d and %d: the partition %d: %+v", parts, procs, i, p)
				}
			}
			for i, p := range got.Procs {
				if (stand(p) == stand(api.Process{})) != (i >= 4) {
					t.Errorf("%d and %d: the process %d: %+v", parts, procs, i, p)
				}
			}
		}
	}
}

// A process is seen by the label of its own partition, wherever it stands.
func TestOfProcessesInOtherOrders(t *testing.T) {
	c := api.Config{Labels: []uint64{0, 1, 2, 3}, Procs: []api.Proc{{Part: 3}, {Part: 1}, {Part: 1}, {Part: 0}, {Part: 4}, {Part: 2}}}
	s := filled(4, 6, 1)
	for a, want := range map[uint64][]int{0: {3}, 1: {1, 2, 3}, 2: {3, 5}, 3: {0, 1, 2, 3, 5}} {
		for i, p := range tells(t, c, s, a).Procs {
			if (stand(p) == stand(s.Procs[i])) != slices.Contains(want, i) {
				t.Errorf("Of(%d): the process %d: %+v", a, i, p)
			}
		}
	}
}

// A list without elements may be nil or not.
func TestOfListsWithoutElements(t *testing.T) {
	c := chapter()
	for _, s := range bareStates() {
		for _, a := range labels {
			tells(t, c, s, a)
		}
		alikes(t, "bare", Of(c, s, 3), s, true)
	}
}

func TestOfMachines(t *testing.T) {
	for _, c := range []api.Config{one(0), one(1 << 63), busy(0, 1, 2, 3), busy(1, 6), busy(0, 1<<63)} {
		all := ran(t, c, 60)
		for _, s := range all {
			for _, a := range labels {
				tells(t, c, s, a)
			}
			alikes(t, "all", Of(c, s, math.MaxUint64), s, true)
		}
		last := all[len(all)-1]
		if len(c.Procs) > 1 && (len(last.Parts[0].Log) == 0 || len(last.Parts[0].Queues[0]) == 0 || len(last.Procs[1].Lanes[0].Values)+len(last.Procs[0].Lanes[0].Waiters) == 0) {
			t.Errorf("the machine has done too little: %+v", last)
		}
	}
}

// What goes on above is not seen below, behind any tick.
func TestOfMachinesThatDifferAbove(t *testing.T) {
	c := busy(0, 1, 2, 3)
	d := busy(0, 1, 2, 3)
	for i, p := range d.Procs {
		if p.Part >= 2 {
			d.Procs[i] = of(p.Part, "self r1", "send r2 r0 r1", "out r1", "jump 0")
		}
	}
	m, _ := machine.New(c)
	n, _ := machine.New(d)
	for range 60 {
		m.Tick()
		n.Tick()
		s, u := m.State(), n.State()
		for _, a := range []uint64{0, 1, 5} {
			alikes(t, "below", Of(c, s, a), Of(d, u, a), true)
		}
	}
	for _, a := range []uint64{2, 3, math.MaxUint64} {
		alikes(t, "above", Of(c, m.State(), a), Of(d, n.State(), a), false)
	}
}

// P18.2: Of of what Of tells.

func TestOfOfOf(t *testing.T) {
	states := states(t)
	for _, c := range configs() {
		for _, s := range states {
			for _, a := range labels {
				seen := Of(c, s, a)
				alikes(t, "again", Of(c, seen, a), seen, true)
				for _, b := range labels {
					// Who is told what others see sees what both see.
					want := Of(c, s, a&b)
					alikes(t, "both", Of(c, seen, b), want, true)
					if plainFlows(b, a) {
						alikes(t, "below", Of(c, seen, b), Of(c, s, b), true)
					}
				}
			}
		}
	}
}

// P18.2: who sees more secrets sees all that others see.
func TestMoreSecretsSeeMore(t *testing.T) {
	states := states(t)
	for _, c := range configs() {
		for _, s := range states {
			var views []api.State
			for _, a := range labels {
				views = append(views, Of(c, s, a))
			}
			for i, a := range labels {
				for j, b := range labels {
					if plainFlows(a, b) {
						seesAll(t, views[i], views[j])
					}
				}
			}
		}
		for p := range c.Procs {
			for _, a := range labels {
				for _, b := range labels {
					if plainFlows(a, b) && Sees(c, p, a) && !Sees(c, p, b) {
						t.Errorf("%+v: the process %d is seen at %#x, not at %#x", c, p, a, b)
					}
				}
			}
		}
	}
}

// seesAll asks whether all that one sees stands in what the other one sees.
func seesAll(t *testing.T, few, more api.State) {
	t.Helper()
	both := api.State{Tick: few.Tick, Parts: slices.Clone(more.Parts), Procs: slices.Clone(more.Procs)}
	for i, p := range few.Parts {
		if !Same(api.State{Parts: []api.Part{p}}, api.State{Parts: make([]api.Part, 1)}) {
			both.Parts[i] = p
		}
	}
	for i, p := range few.Procs {
		if !Same(api.State{Procs: []api.Process{p}}, api.State{Procs: make([]api.Process, 1)}) {
			both.Procs[i] = p
		}
	}
	alikes(t, "sees all", both, more, true)
}
