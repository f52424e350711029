package twin

import (
	"math"
	"slices"
	"testing"

	"firebreak/api"
)

// purged asks that Purge leaves those steps.
func purged(t *testing.T, c api.Config, l []api.Step, a uint64, want ...api.Step) {
	t.Helper()
	if got := Purge(c, l, a); !slices.Equal(got, want) {
		t.Errorf("Purge(%+v, %d): %+v, not %+v", l, a, got, want)
	}
}

// P19.1: Purge.

func TestPurgeOfTheExamples(t *testing.T) {
	s := []api.Step{ticks(2), inject(1, 5), ticks(1)}
	u := []api.Step{ticks(2), kill(1), ticks(1)}
	for _, l := range [][]api.Step{s, u} {
		purged(t, chapter(), l, 0, ticks(2), ticks(1))
		purged(t, chapter(), l, 1, l...)
		purged(t, chapter(), l, 2, ticks(2), ticks(1))
		purged(t, chapter(), l, math.MaxUint64, l...)
	}
	purged(t, chapter(), []api.Step{ticks(2), inject(0, 5), ticks(1)}, 0, ticks(2), inject(0, 5), ticks(1))
}

func TestPurgeOfNoSteps(t *testing.T) {
	for _, c := range []api.Config{{}, chapter(), one(3), busy(0, 1, 2, 3)} {
		for _, a := range []uint64{0, 1, math.MaxUint64} {
			purged(t, c, nil, a)
			purged(t, c, []api.Step{}, a)
		}
	}
}

// One step of each kind, on each process, for labels that show nothing, something and all.
func TestPurgeOfEachKind(t *testing.T) {
	c := busy(1, 2, 3)
	for _, a := range []uint64{0, 1, 2, 3, 4, 5, 7, 1 << 63, math.MaxUint64 - 1, math.MaxUint64} {
		for p := range c.Procs {
			for _, v := range []int64{0, 1, -1, math.MaxInt64, math.MinInt64} {
				for _, kind := range []int{api.StepInject, api.StepKill} {
					var want []api.Step
					if plainFlows(c.Labels[p/8], a) {
						want = []api.Step{stepOf(kind, p, v)}
					}
					purged(t, c, []api.Step{stepOf(kind, p, v)}, a, want...)
				}
				for _, kind := range append([]int{api.StepTick}, noKinds...) {
					purged(t, c, []api.Step{stepOf(kind, p, v)}, a, stepOf(kind, p, v))
				}
			}
		}
	}
}

// A process that there isn't is seen by nobody; a number that is no process's hides no tick, and no step of a kind that is none.
func TestPurgeOfProcessesThatThereAreNot(t *testing.T) {
	for _, c := range []api.Config{{}, chapter(), one(0), {Labels: []uint64{0}}, {Procs: []api.Proc{{}, {Part: 1}}}, busy(0, 1, 3)} {
		for _, n := range append([]int{len(c.Procs), len(c.Procs) + 1}, wild...) {
			for _, a := range []uint64{0, 1, math.MaxUint64} {
				purged(t, c, []api.Step{inject(n, 3), kill(n), inject(n, 0)}, a)
				purged(t, c, []api.Step{ticks(n), inject(n, 3), stepOf(0, n, 1), kill(n), stepOf(4, n, -1)}, a, ticks(n), stepOf(0, n, 1), stepOf(4, n, -1))
			}
		}
	}
}

// Hand-made configs: processes of partitions that there are not, labels that may not be.
func TestPurgeByConfigsThatMayNotBe(t *testing.T) {
	c := api.Config{Labels: []uint64{7, 3, 3, 0}, Procs: []api.Proc{{Part: 3}, {Part: 4}, {Part: -1}, {Part: 2}, {Part: 1}, {Part: 0}, {Part: math.MinInt}, {Part: 1 << 32}}}
	var all []api.Step
	for p := -1; p < 10; p++ {
		all = append(all, inject(p, int64(p)), kill(p))
	}
	purged(t, c, all, 0, inject(0, 0), kill(0))
	purged(t, c, all, 3, inject(0, 0), kill(0), inject(3, 3), kill(3), inject(4, 4), kill(4))
	purged(t, c, all, 7, inject(0, 0), kill(0), inject(3, 3), kill(3), inject(4, 4), kill(4), inject(5, 5), kill(5))
}

// What is left stays in its order, with all its fields, twice where it was there twice.
func TestPurgeKeepsTheOrder(t *testing.T) {
	l := []api.Step{stepOf(1, 3, 8), inject(1, 1), inject(0, 2), inject(1, 1), stepOf(3, 0, 9), stepOf(3, 1, 9), inject(0, 2), stepOf(1, 3, 8), stepOf(9, 9, 9), kill(7), stepOf(0, 0, 0)}
	purged(t, chapter(), l, 0, stepOf(1, 3, 8), inject(0, 2), stepOf(3, 0, 9), inject(0, 2), stepOf(1, 3, 8), stepOf(9, 9, 9), stepOf(0, 0, 0))
	purged(t, chapter(), l, 1, append(slices.Clone(l[:9]), l[10])...)
}

// Purge asks nothing about how many steps there are.
func TestPurgeOfMoreStepsThanAScriptMayHave(t *testing.T) {
	for _, n := range []int{api.MaxSteps - 1, api.MaxSteps, api.MaxSteps + 1, 100000} {
		purged(t, chapter(), slices.Repeat([]api.Step{inject(1, 4)}, n), 0)
		purged(t, chapter(), slices.Repeat([]api.Step{inject(0, 4)}, n), 0, slices.Repeat([]api.Step{inject(0, 4)}, n)...)
		purged(t, chapter(), slices.Repeat([]api.Step{kill(1), ticks(1)}, n), 0, slices.Repeat([]api.Step{ticks(1)}, n)...)
	}
}

func TestPurgeIsWhatTheChapterSays(t *testing.T) {
	c := chance(3)
	hidden := 0
	for range 3000 {
		x, l := c.config(), c.steps()
		a := c.label(x)
		want := plainPurge(x, l, a)
		purged(t, x, l, a, want...)
		// What is purged once has nothing more that is purged.
		purged(t, x, want, a, want...)
		hidden += len(l) - len(want)
	}
	if hidden < 3000 {
		t.Errorf("%d steps were purged", hidden)
	}
}
