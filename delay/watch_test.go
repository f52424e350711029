package delay

import (
	"fmt"
	"slices"
	"testing"

	"firebreak/api"
	"firebreak/conf"
)

// small is chapter 15's example.
func small() api.Config {
	return api.Config{
		Labels: []uint64{0, 1}, Table: []int{0, 1}, Fuel: 2, Lane: 1, Locks: 1, Log: 4,
		Procs: []api.Proc{of(0, "set r0 1", "set r1 5", "send r2 r0 r1", "exit"), of(1, "recv r3 r4", "out r3", "exit")},
	}
}

// steps is a script.
func steps(l ...api.Step) []api.Step { return l }

// P21.3: the errors.

func TestWatchRefusesConfigs(t *testing.T) {
	for i, c := range refusedConfigs() {
		want, _ := conf.May(c)
		for _, l := range [][]api.Step{nil, {tick(2)}, make([]api.Step, api.MaxSteps+1)} {
			if messages, grants, e := Watch(c, l); e != want || want == api.OK || messages != nil || grants != nil {
				t.Errorf("number %d: %v, %v, %d, not %d", i, messages, grants, e, want)
			}
		}
	}
}

func TestWatchOfManySteps(t *testing.T) {
	l := slices.Repeat(steps(tick(1)), api.MaxSteps+1)
	l[0] = inject(1, 9)
	if messages, grants, e := Watch(small(), l); e != api.ErrMany || messages != nil || grants != nil {
		t.Errorf("one too many: %v, %v, %d", messages, grants, e)
	}
	if messages, grants, e := Watch(small(), slices.Repeat(l, 3)); e != api.ErrMany || messages != nil || grants != nil {
		t.Errorf("many: %v, %v, %d", messages, grants, e)
	}
	tell(t, small(), l[:api.MaxSteps], []Message{{1, 2, 0, 0, 2}, {1, 0, 0, 3, -1}}, nil)
	// The last step is done, too.
	l = append(make([]api.Step, api.MaxSteps-1), inject(1, 9))
	tell(t, small(), l, []Message{{1, 2, 0, 0, -1}}, nil)
}

// P21.3: the steps.

func TestWatchExamples(t *testing.T) {
	c := small()
	tell(t, c, steps(inject(1, 9), tick(2)), []Message{{1, 2, 0, 0, 2}}, nil)
	tell(t, c, steps(inject(1, 9), tick(1)), []Message{{1, 2, 0, 0, -1}}, nil)
	tell(t, c, nil, nil, nil)
	tell(t, c, steps(tick(4)), []Message{{1, 0, 0, 3, 4}}, nil)
	tell(t, c, steps(tick(3)), []Message{{1, 0, 0, 3, -1}}, nil)
}

// A step of ticks is so many, one by one.
func TestTicksAreDoneOneByOne(t *testing.T) {
	c := one(1, of(0, "self r0", "send r1 r0 r0", "recv r2 r3", "send r1 r0 r0", "now r4", "now r4", "now r4", "recv r2 r3"))
	want := []Message{{0, 0, 0, 2, 3}, {0, 0, 0, 4, 8}}
	tell(t, c, steps(tick(8)), want, nil)
	tell(t, c, steps(tick(1), tick(2), tick(5), tick(9)), want, nil)
	tell(t, c, slices.Repeat(steps(tick(1)), 9), want, nil)
}

// pulse is a config whose process 0 has a message standing from each even tick but the first one to the odd one behind it.
func pulse() api.Config {
	return one(1, of(0, "recv r0 r1", "send r2 r3 r0", "jump 0"))
}

func TestTicksThatAreNotDone(t *testing.T) {
	c := pulse()
	want := []Message{{0, 1, 0, 0, 1}, {0, 0, 0, 2, -1}}
	for _, n := range refused {
		tell(t, c, steps(inject(0, 1), tick(n), tick(2), tick(n)), want, nil)
	}
	tell(t, c, steps(inject(0, 1), tick(2), tick(api.MaxTicks-1), tick(api.MaxTicks)), want, nil)
}

// asleep is a config whose process sleeps till something is injected, and takes it.
func asleep() api.Config { return one(1, of(0, "recv r0 r1", "jump 0")) }

func TestAsManyTicksAsThereMayBe(t *testing.T) {
	for _, x := range []struct {
		l    []api.Step
		want []Message
	}{
		{steps(tick(api.MaxTicks-1), inject(0, 1), tick(1), inject(0, 2)), []Message{{0, 1, 0, 65535, 65536}, {0, 1, 0, 65536, -1}}},
		{steps(tick(api.MaxTicks), inject(0, 1), tick(1), inject(0, 2)), []Message{{0, 1, 0, 65536, -1}, {0, 1, 1, 65536, -1}}},
		{steps(tick(api.MaxTicks+1), inject(0, 1), tick(1), inject(0, 2)), []Message{{0, 1, 0, 0, 1}, {0, 1, 0, 1, -1}}},
		{steps(tick(api.MaxTicks-1), tick(2), inject(0, 1), tick(1)), []Message{{0, 1, 0, 65535, 65536}}},
		{steps(tick(2), tick(api.MaxTicks-1), inject(0, 1), tick(api.MaxTicks-2)), []Message{{0, 1, 0, 2, 3}}},
	} {
		if got, grants := watched(t, asleep(), x.l...); !slices.Equal(got, x.want) || len(grants) > 0 {
			t.Errorf("%v: %v, not %v: %v", x.l, got, x.want, grants)
		}
	}
}

// As many steps as there may be, of as many ticks as there may be: behind the last one of these nothing is done.
func TestAsManyStepsAndTicksAsThereMayBe(t *testing.T) {
	l := slices.Repeat(steps(tick(api.MaxTicks/api.MaxSteps)), api.MaxSteps)
	l[1022] = inject(0, 1)
	got, _ := watched(t, asleep(), l...)
	if want := []Message{{0, 1, 0, 1022 * 64, 1022*64 + 1}}; !slices.Equal(got, want) {
		t.Errorf("%v, not %v", got, want)
	}
	l[0], l[1021], l[1023] = tick(64*3), tick(64), inject(0, 1)
	got, _ = watched(t, asleep(), l...)
	if want := []Message{{0, 1, 0, api.MaxTicks - 64 + 64, -1}, {0, 1, 1, api.MaxTicks, -1}}; !slices.Equal(got, want) {
		t.Errorf("%v, not %v", got, want)
	}
}

func TestStepsOfOtherKinds(t *testing.T) {
	want := []Message{{0, 1, 0, 1, -1}}
	for _, kind := range append([]int{api.StepNone, 4, 5}, wild...) {
		none := api.Step{Kind: kind, N: 0, V: 5}
		ticks := api.Step{Kind: kind, N: 3}
		tell(t, asleep(), steps(none, tick(1), inject(0, 7), none, ticks), want, nil)
	}
}

func TestFieldsThatAKindDoesNotName(t *testing.T) {
	tell(t, asleep(), steps(api.Step{Kind: api.StepTick, N: 2, V: 9}, inject(0, 7), api.Step{Kind: api.StepTick, N: 1, V: -1}), []Message{{0, 1, 0, 2, 3}}, nil)
	tell(t, asleep(), steps(inject(0, 7), api.Step{Kind: api.StepKill, N: 0, V: 9}, tick(2)), []Message{{0, 1, 0, 0, -1}}, nil)
}

// What is injected is the step's value: here to whom it is sent on.
func TestInjectionsOfValues(t *testing.T) {
	c := one(1, of(0, "recv r0 r1", "send r2 r0 r0", "jump 0"), of(0, "recv r6 r7"), of(0, "recv r6 r7"))
	for _, q := range []int{1, 2} {
		tell(t, c, steps(inject(0, int64(q)), tick(9)), []Message{{0, 1, 0, 0, 1}, {q, 0, 0, 4, 5}}, nil)
	}
}

func TestInjectionsAndKillsThatAreRefused(t *testing.T) {
	c := changed(asleep(), func(c *api.Config) { c.Lane = 1 })
	for _, p := range append([]int{1, 32}, wild...) {
		tell(t, c, steps(inject(p, 1), kill(p), inject(0, 1), inject(p, 1), kill(p), tick(1)), []Message{{0, 1, 0, 0, 1}}, nil)
	}
	// The lane is full; the process has ended.
	tell(t, c, steps(inject(0, 1), inject(0, 2), tick(1), inject(0, 3), kill(0), inject(0, 4), kill(0), tick(2)), []Message{{0, 1, 0, 0, 1}, {0, 1, 0, 1, -1}}, nil)
}

// P21.3: the messages.

func TestPlacesAreThoseOfTheBorder(t *testing.T) {
	c := one(1, of(0, "now r0", "now r0", "recv r0 r1", "jump 0"))
	l := steps(inject(0, 1), inject(0, 2), tick(1), inject(0, 3), tick(2), inject(0, 4), inject(0, 5), inject(0, 6), tick(13))
	tell(t, c, l, []Message{
		{0, 1, 0, 0, 3}, {0, 1, 1, 0, 7}, {0, 1, 2, 1, 11},
		{0, 1, 2, 3, 15}, {0, 1, 3, 3, -1},
	}, nil)
}

// More of a lane are taken within one slot than stood there at the border ahead, and some come in that stay.
func TestAllAreTakenAndOthersCome(t *testing.T) {
	c := one(16, of(0, "self r0", "now r1", "sleep r3", "send r7 r0 r1", "send r7 r0 r1", "sleep r3", "send r7 r0 r1",
		"recv r4 r5", "recv r4 r5", "recv r4 r5", "send r7 r0 r1", "sleep r3", "send r7 r0 r1", "recv r4 r5", "recv r4 r5"))
	tell(t, c, steps(tick(5)), []Message{{0, 0, 0, 2, 3}, {0, 0, 1, 2, 3}, {0, 0, 0, 3, 4}}, nil)
}

// What comes and goes between two borders is not told.
func TestWhatComesAndGoesIsNotTold(t *testing.T) {
	c := one(api.MaxFuel, of(0, "self r0", "send r1 r0 r0", "recv r2 r3", "jump 1"))
	all := drive(t, c, steps(tick(9)))
	if got := all[9].s.Procs[0].Lanes[0].Taken; got < 9*80 {
		t.Errorf("%d were taken", got)
	}
	messages, _ := watched(t, c, tick(9))
	if len(messages) > 9 || !slices.Equal(messages, plainMessages(all)) {
		t.Errorf("%v", messages)
	}
	// 255 units: at each border the process stands behind a Recv.
	c.Fuel, c.Procs[0] = 255, of(0, "send r1 r0 r0", "recv r2 r3", "jump 0")
	tell(t, c, steps(tick(9)), nil, nil)
}

// A message that another one follows at the same place is another one.
func TestOneBehindTheOtherAtOnePlace(t *testing.T) {
	c := one(2, of(0, "self r0", "send r1 r0 r0", "recv r2 r3", "send r1 r0 r0", "jump 2"))
	tell(t, c, steps(tick(8)), []Message{{0, 0, 0, 1, 2}, {0, 0, 0, 2, 3}, {0, 0, 0, 4, 5}, {0, 0, 0, 5, 6}, {0, 0, 0, 7, 8}, {0, 0, 0, 8, -1}}, nil)
	c = one(3, of(0, "self r0", "send r1 r0 r0", "now r2", "recv r2 r3", "send r1 r0 r0", "jump 3"))
	tell(t, c, steps(tick(4)), []Message{{0, 0, 0, 1, 2}, {0, 0, 0, 2, 3}, {0, 0, 0, 3, 4}, {0, 0, 0, 4, -1}}, nil)
}

// At one border in two lanes of one process, and in those of two: by process, lane and place.
func TestTwoLanesAndTwoProcessesAtOneBorder(t *testing.T) {
	c := two(20,
		of(0, "set r0 3", "set r1 2", "send r7 r0 r1", "send r7 r1 r1", "send r7 r0 r1", "send r7 r1 r1"),
		of(0, "set r0 3", "set r1 2", "set r2 0", "send r7 r2 r1", "send r7 r0 r1", "self r2", "send r7 r2 r2"),
		of(1, "self r0", "send r7 r0 r0", "send r7 r0 r0", "set r1 3", "send r7 r1 r0"),
		of(1, "jump 0"))
	tell(t, c, steps(inject(3, 1), inject(2, 1), inject(3, 1), tick(2)), []Message{
		{3, 2, 0, 0, -1},
		{2, 2, 0, 0, -1},
		{3, 2, 1, 0, -1},
		{0, 0, 0, 1, -1}, {1, 0, 0, 1, -1}, {2, 0, 0, 1, -1}, {2, 0, 1, 1, -1}, {3, 0, 0, 1, -1}, {3, 0, 1, 1, -1}, {3, 0, 2, 1, -1},
		{2, 1, 0, 2, -1}, {2, 1, 1, 2, -1}, {3, 1, 0, 2, -1},
	}, nil)
}

// Each lane has its own count: what is taken of one tells nothing of the other.
func TestLanesAreToldApart(t *testing.T) {
	c := one(1, of(0, "self r0", "send r7 r0 r1", "send r7 r0 r1", "recv r4 r5", "recv r4 r5", "recv r4 r5"), of(0, "exit"))
	tell(t, c, steps(inject(0, 5), inject(1, 6), tick(10)), []Message{
		{0, 1, 0, 0, 6}, {1, 1, 0, 0, -1},
		{0, 0, 0, 3, 5}, {0, 0, 1, 4, 7},
	}, nil)
}

// Who waits for room is no message yet.
func TestWhoWaitsForRoomIsNoMessage(t *testing.T) {
	c := changed(one(1, of(0, "now r0", "now r0", "now r0", "recv r0 r1", "jump 0"), of(0, "send r7 r0 r1", "send r7 r0 r1")), func(c *api.Config) { c.Lane = 1 })
	tell(t, c, steps(tick(12)), []Message{{0, 0, 0, 2, 6}, {0, 0, 0, 6, 12}}, nil)
}

// What the lanes of one that ends hold stays there.
func TestLanesOfOneThatEnded(t *testing.T) {
	c := two(1, of(0, "set r0 1", "send r7 r0 r0", "jump 1"), of(1, "recv r0 r1", "exit"))
	tell(t, c, steps(tick(13)), []Message{{1, 0, 0, 3, 4}}, nil)
	tell(t, c, steps(tick(3), kill(1), tick(13)), []Message{{1, 0, 0, 3, -1}}, nil)
}

// P21.3: counts at their greatest.

// counter is a process that takes so many of its own messages, within slots, and sleeps; then it sends itself six, and sleeps; then it takes them, and behind each there is the last line.
func counter(taken int, last string) api.Config {
	lines := []string{"self r0", "set r2 " + fmt.Sprint(taken), "set r3 1", "send r7 r0 r2", "recv r4 r5", "sub r2 r2 r3", "if r2 3", "sleep r3"}
	lines = append(lines, slices.Repeat([]string{"send r7 r0 r1"}, 6)...)
	lines = append(lines, "sleep r3")
	lines = append(lines, slices.Repeat([]string{"recv r4 r5", last}, 6)...)
	return changed(one(api.MaxFuel, of(0, lines...)), func(c *api.Config) { c.Lane = 8 })
}

// counted is how many ticks there were when that process sleeps first.
func counted(taken int) int64 { return int64(3+4*taken+1+255) / 256 }

// sixes are the last six messages of such a process, of which one is taken each so many ticks. Those that would come to more than a count may be are never told as taken, and those that come in when it is at its greatest aren't told at all.
func sixes(taken int, each int64) []Message {
	var l []Message
	in := counted(taken) + 1
	for place := range 6 {
		m := Message{0, 0, place, in, in + 1 + int64(place)*each}
		if taken+place+1 > api.MaxCount {
			m.Out = -1
		}
		if taken < api.MaxCount {
			l = append(l, m)
		}
	}
	return l
}

func TestALaneWhoseCountIsNearTheGreatest(t *testing.T) {
	for taken := api.MaxCount - 8; taken <= api.MaxCount; taken++ {
		for each, last := range []string{"now r6", "sleep r3"} {
			c, n := counter(taken, last), int(counted(taken))
			l := steps(tick(n), tick(9))
			all := drive(t, c, l)
			if got := all[n].s.Procs[0]; got.Lanes[0].Taken != taken || got.State != api.Asleep {
				t.Fatalf("behind %d ticks: %+v", n, got)
			}
			messages, _ := watched(t, c, l...)
			if want := plainMessages(all); !slices.Equal(messages, want) {
				t.Errorf("%d taken: %v, not %v", taken, messages, want)
			}
			behind := slices.DeleteFunc(messages, func(m Message) bool { return m.In <= int64(n) })
			if want := sixes(taken, int64(each)); !slices.Equal(behind, want) {
				t.Errorf("%d taken: %v, not %v", taken, behind, want)
			}
		}
	}
}

// A count that is at its greatest keeps quiet about its lane, and about no other one.
func TestALaneAtTheGreatestAndAnotherOne(t *testing.T) {
	c, n := counter(api.MaxCount, "sleep r3"), counted(api.MaxCount)
	messages, _ := watched(t, c, tick(int(n)), inject(0, 1), inject(0, 2), tick(9))
	behind := slices.DeleteFunc(messages, func(m Message) bool { return m.Lane == 0 && m.In < n })
	want := []Message{{0, 1, 0, n, n + 2}, {0, 1, 1, n, n + 4}}
	if !slices.Equal(behind, want) {
		t.Errorf("%v, not %v", behind, want)
	}
}

// P21.3: the grants.

// taker is a process that takes the lock 0, does so many units, and gives it.
func taker(units int) api.Proc {
	return of(0, append(append([]string{"lock 0"}, slices.Repeat([]string{"now r1"}, units)...), "unlock 0", "exit")...)
}

func TestGrantsOneBehindTheOther(t *testing.T) {
	c := one(1, taker(1), taker(1), taker(1))
	tell(t, c, steps(tick(5), kill(2), tick(1)), nil, []Grant{{1, 0, 2, 5}, {2, 0, 3, 5}})
	tell(t, c, steps(tick(20)), nil, []Grant{{1, 0, 2, 5}, {2, 0, 3, 8}})
	tell(t, c, steps(tick(4)), nil, []Grant{{1, 0, 2, -1}, {2, 0, 3, -1}})
	tell(t, c, steps(tick(1)), nil, nil)
}

// A lock that is had at once is not waited for; one whose holder doesn't give it is never had.
func TestGrantsAtOnceAndNever(t *testing.T) {
	tell(t, one(1, taker(1), of(0, "now r1", "now r1", "now r1", "now r1", "lock 0")), steps(tick(20)), nil, nil)
	tell(t, one(1, of(0, "lock 0", "jump 1"), taker(1)), steps(tick(300)), nil, []Grant{{1, 0, 2, -1}})
	tell(t, one(1, of(0, "lock 0", "lock 0", "exit"), taker(1)), steps(tick(20)), nil, []Grant{{1, 0, 2, 4}})
}

// Locks that are given by a kill are had at that border, and who is killed waits no more.
func TestGrantsAtAKill(t *testing.T) {
	c := one(1, of(0, "lock 0", "lock 2", "jump 2"), of(0, "now r0", "lock 2"), taker(9), of(0, "lock 0"))
	wait := []Grant{{2, 0, 3, -1}, {3, 0, 4, -1}, {1, 2, 6, -1}}
	tell(t, c, steps(tick(9)), nil, wait)
	wait[0].Had, wait[2].Had = 9, 9
	tell(t, c, steps(tick(9), kill(0), tick(2)), nil, wait)
	wait[1].Had = 9
	tell(t, c, steps(tick(9), kill(0), kill(3), tick(2)), nil, wait)
	tell(t, c, steps(tick(9), kill(3), kill(7), kill(0), kill(0)), nil, wait)
}

// Two that ask for a lock in one slot, and one more that asks for another one.
func TestGrantsOfOneBorder(t *testing.T) {
	c := one(8, of(0, "lock 1", "lock 0", "sleep r1", "sleep r1", "unlock 0", "sleep r1"), of(0, "now r1", "lock 0"), of(0, "now r1", "lock 1"), of(0, "now r1", "lock 0"))
	tell(t, c, steps(tick(9)), nil, []Grant{{1, 0, 1, 4}, {2, 1, 1, 5}, {3, 0, 1, 4}})
}

// The lock 0 is had in the slot in which the lock 1 is asked for.
func TestAnotherLockAtTheNextBorder(t *testing.T) {
	c := one(8, of(0, "lock 0", "sleep r1", "unlock 0", "jump 3"), of(0, "lock 1", "sleep r1", "sleep r1", "sleep r1", "unlock 1", "exit"), of(0, "lock 0", "lock 1", "exit"))
	tell(t, c, steps(tick(9)), nil, []Grant{{2, 0, 1, 2}, {2, 1, 2, 4}})
	// From the greater one to the lesser one, too.
	c.Procs[0], c.Procs[1], c.Procs[2] = of(0, "lock 2", "sleep r1", "unlock 2", "jump 3"), of(0, "lock 0", "sleep r1", "sleep r1", "sleep r1", "unlock 0", "exit"), of(0, "lock 2", "lock 0", "exit")
	tell(t, c, steps(tick(9)), nil, []Grant{{2, 2, 1, 2}, {2, 0, 2, 4}})
}

// A lock that is had, given and asked for again between two borders is one wait.
func TestTheSameLockAgainBetweenTwoBorders(t *testing.T) {
	c := one(8, of(0, "lock 0", "sleep r1", "unlock 0", "lock 0", "sleep r1", "unlock 0", "exit"), of(0, "lock 0", "unlock 0", "lock 0", "unlock 0", "exit"))
	tell(t, c, steps(tick(9)), nil, []Grant{{1, 0, 1, 3}})
	all := drive(t, c, steps(tick(2)))
	if a, b := all[1].s.Procs[1], all[2].s.Procs[1]; a.PC != 0 || b.PC != 2 || a.State != api.WaitLock || b.State != api.WaitLock {
		t.Errorf("%+v, %+v", a, b)
	}
}

// A lock that is asked for anew is another wait.
func TestTheSameLockAgain(t *testing.T) {
	c := one(1, of(0, "lock 0", "now r1", "unlock 0", "jump 0"), of(0, "lock 0", "now r1", "unlock 0", "jump 0"))
	tell(t, c, steps(tick(40)), nil, []Grant{{1, 0, 2, 4}, {1, 0, 11, 12}, {1, 0, 19, 20}, {1, 0, 27, 28}, {1, 0, 35, 36}})
}

// Each partition has its own locks.
func TestLocksOfTwoPartitions(t *testing.T) {
	holder, waiter := []string{"lock 1", "jump 1"}, []string{"lock 1"}
	c := two(1, of(0, holder...), of(1, holder...), of(0, waiter...), of(1, waiter...))
	tell(t, c, steps(tick(20), kill(1), tick(1)), nil, []Grant{{2, 1, 3, -1}, {3, 1, 4, 20}})
}

// Others that wait, for messages, for room and for time, wait for no lock, even where a lock stands next.
func TestWhoWaitsForSomethingElse(t *testing.T) {
	c := changed(one(1, of(0, "lock 0", "jump 1"), of(0, "recv r0 r1", "lock 0"), of(0, "sleep r0", "lock 0"), of(0, "self r1", "send r7 r1 r1", "send r7 r1 r1", "lock 0"), of(0, "exit")), func(c *api.Config) { c.Lane = 1 })
	tell(t, c, steps(tick(30), inject(1, 3), tick(5)), []Message{{3, 0, 0, 8, -1}, {1, 1, 0, 30, 31}}, []Grant{{2, 0, 7, -1}, {1, 0, 33, -1}})
}

// P21.3: what is logged changes nothing.
func TestLogsChangeNothing(t *testing.T) {
	for _, log := range []int{0, 1, 3, api.MaxLog} {
		c := changed(one(3, of(0, "out r0", "lock 0", "out r0", "recv r1 r2", "out r1", "unlock 0", "jump 0"), of(0, "out r0", "lock 0", "unlock 0", "jump 0")), func(c *api.Config) { c.Log = log })
		tell(t, c, steps(tick(3), inject(0, 7), tick(9), inject(0, 8), tick(4)), []Message{{0, 1, 0, 3, 4}, {0, 1, 0, 12, 13}}, []Grant{{1, 0, 2, 4}, {1, 0, 7, 13}, {1, 0, 16, -1}})
	}
}

// P21.3: configs and scripts of chance.

func TestWatchOfChance(t *testing.T) {
	c := chance(2)
	messages, taken, behind, grants, had, again := 0, 0, 0, 0, 0, 0
	for range 900 {
		x := c.config()
		l := c.script(len(x.Procs), 10+c.next(40))
		all := drive(t, x, l)
		gotMessages, gotGrants := watched(t, x, l...)
		want, byValue := plainMessages(all), messagesByValue(all)
		if !slices.Equal(gotMessages, want) || !slices.Equal(want, byValue) {
			t.Fatalf("%v, not %v, %v: %+v %v", gotMessages, want, byValue, x, l)
		}
		if want := plainGrants(x, all); !slices.Equal(gotGrants, want) {
			t.Fatalf("%v, not %v: %+v %v", gotGrants, want, x, l)
		}
		for _, m := range gotMessages {
			messages++
			if m.Out >= 0 {
				taken++
			}
			if m.Place > 0 {
				behind++
			}
		}
		for i, g := range gotGrants {
			grants++
			if g.Had >= 0 {
				had++
			}
			if slices.ContainsFunc(gotGrants[:i], func(x Grant) bool { return x.Proc == g.Proc && x.Had == g.Asked }) {
				again++
			}
		}
	}
	if messages < 5000 || taken < 2000 || behind < 2000 || grants < 500 || had < 200 || again < 3 {
		t.Errorf("%d messages, %d taken, %d behind others; %d grants, %d had, %d had and another one asked for at once", messages, taken, behind, grants, had, again)
	}
}
