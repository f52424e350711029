package run

import (
	"bytes"
	"math"
	"slices"
	"testing"

	"firebreak/api"
	"firebreak/script"
)

// played asks that Play of a config and a script answers so, step by step, and in the end stands as a machine said plainly.
func played(t *testing.T, c api.Config, l []api.Step) ([]api.Answer, api.State) {
	t.Helper()
	p := plainly(t, c)
	var want []api.Answer
	for _, s := range l {
		want = append(want, p.do(s))
	}
	got, s, e, at := Play(encoded(t, c), written(t, l))
	if e != api.OK || at != 0 || !slices.Equal(got, want) {
		t.Fatalf("Play of %+v: %+v, %d, %d, not %+v", l, got, e, at, want)
	}
	if is, should := stand(s), stand(p.m.State()); is != should {
		t.Fatalf("Play of %+v: State: %s, not %s", l, is, should)
	}
	return got, s
}

// untold asks that Play tells that error and its place, and nothing else.
func untold(t *testing.T, raw, steps []byte, want api.Errno, place int) {
	t.Helper()
	l, s, e, at := Play(raw, steps)
	if len(l) != 0 || e != want || at != place {
		t.Errorf("Play of %x, %x: %+v, %d, %d, not %d, %d", raw[:min(len(raw), 50)], steps[:min(len(steps), 50)], l, e, at, want, place)
	}
	if s.Tick != 0 || len(s.Parts) != 0 || len(s.Procs) != 0 {
		t.Errorf("Play of %x, %x: a State beside an error: %+v", raw[:min(len(raw), 50)], steps[:min(len(steps), 50)], s)
	}
}

// P17.1: Play of what may be.

func TestPlayOfTheExamples(t *testing.T) {
	untold(t, nil, nil, api.ErrShort, 0)
	untold(t, nil, written(t, nil), api.ErrShort, 0)
	l, s := played(t, small(), []api.Step{ticks(3), inject(1, 9), kill(7), ticks(0), ticks(65534)})
	want := []api.Answer{answer(api.OK, 3, 0), answer(api.OK, 3, 0), answer(api.ErrAbsent, 3, 0), answer(api.ErrArg, 3, 0), answer(api.ErrMany, 3, 0)}
	if !slices.Equal(l, want) || s.Tick != 3 || !slices.Equal(s.Procs[1].Lanes[2].Values, []int64{9}) {
		t.Errorf("%+v, %+v", l, s)
	}
	l, s = played(t, small(), []api.Step{kill(0)})
	if !slices.Equal(l, []api.Answer{answer(api.OK, 0, -1)}) || s.Procs[0].State != api.Killed {
		t.Errorf("%+v, %+v", l, s)
	}
}

func TestPlayOfNoSteps(t *testing.T) {
	for _, config := range append(configs(), greatest()) {
		if l, s := played(t, config, nil); len(l) != 0 || stand(s) != stand(plainly(t, config).m.State()) {
			t.Errorf("%+v, %+v", l, s)
		}
	}
}

func TestPlayOfOneStep(t *testing.T) {
	for _, config := range configs() {
		for _, s := range []api.Step{ticks(1), ticks(2), ticks(100), ticks(65536), ticks(0), ticks(65537), ticks(1<<32 - 1), ticks(1 << 31), inject(0, 0), inject(0, math.MinInt64), inject(1, math.MaxInt64), inject(1<<32-1, 1), kill(0), kill(99), kill(1<<32 - 1)} {
			if l, _ := played(t, config, []api.Step{s}); len(l) != 1 {
				t.Errorf("Play of %+v: %+v", s, l)
			}
		}
	}
}

// A step that is refused is told in its answer, and those behind it are done.
func TestPlayGoesOnBehindARefusedStep(t *testing.T) {
	l, s := played(t, one(), []api.Step{kill(9), ticks(0), ticks(65537), inject(9, 9), inject(0, 4), ticks(2), kill(0), kill(0), ticks(1)})
	var errors []api.Errno
	for _, a := range l {
		errors = append(errors, a.E)
	}
	want := []api.Errno{api.ErrAbsent, api.ErrArg, api.ErrMany, api.ErrAbsent, api.OK, api.OK, api.OK, api.ErrDead, api.OK}
	if !slices.Equal(errors, want) || s.Tick != 3 || !slices.Equal(s.Parts[0].Log, []api.Entry{{Value: 4}}) {
		t.Errorf("%v, %+v", errors, s)
	}
}

func TestPlayOfAsManyStepsAsThereMayBe(t *testing.T) {
	var l []api.Step
	for i := range api.MaxSteps {
		l = append(l, []api.Step{ticks(i % 99), inject(i%5, int64(i)), kill(i % 70 * 7)}[i%3])
	}
	for _, config := range configs() {
		if got, _ := played(t, config, l); len(got) != api.MaxSteps {
			t.Errorf("%d answers", len(got))
		}
	}
	if l, s := played(t, one(), slices.Repeat([]api.Step{ticks(64)}, api.MaxSteps)); s.Tick != 65536 || l[1023] != answer(api.OK, 65536, 0) {
		t.Errorf("%d ticks, %+v", s.Tick, l[1023])
	}
	if l, s := played(t, one(), slices.Repeat([]api.Step{ticks(65)}, api.MaxSteps)); s.Tick != 65520 || l[1007].E != api.OK || l[1008] != answer(api.ErrMany, 65520, 0) {
		t.Errorf("%d ticks, %+v", s.Tick, l[1007:1009])
	}
}

// Play answers what Boot and the steps by Do answer, one behind the other.
func TestPlayIsBootAndDo(t *testing.T) {
	c := chance(5)
	for range 500 {
		config, l := c.any(), c.steps()
		got, s := played(t, config, l)
		r, _, _ := Boot(encoded(t, config))
		for i, step := range l {
			if want := r.Do(step); got[i] != want {
				t.Fatalf("step %d, %+v: %+v, not %+v", i, step, got[i], want)
			}
		}
		if is, should := stand(s), stand(r.State()); is != should {
			t.Fatalf("State: %s, not %s", is, should)
		}
	}
}

// P17.1: Play of what may not be.

func TestPlayOfScriptsThatMayNotBe(t *testing.T) {
	raw := encoded(t, small())
	b := written(t, []api.Step{ticks(258), inject(1, -2)})
	if len(b) != 25 {
		t.Fatalf("%d bytes", len(b))
	}
	for n := range b {
		untold(t, raw, b[:n], api.ErrShort, n)
	}
	for i := range 5 {
		untold(t, raw, with(b, i, 9), api.ErrForm, i)
	}
	untold(t, raw, nil, api.ErrShort, 0)
	untold(t, raw, with(b, 7, 4), api.ErrArg, 7)
	untold(t, raw, with(b, 7, 0), api.ErrArg, 7)
	untold(t, raw, with(b, 12, 4), api.ErrArg, 12)
	untold(t, raw, with(b, 6, 4), api.ErrMany, 5)
	untold(t, raw, with(b, 12, 3), api.ErrRest, 17)
	untold(t, raw, append(bytes.Clone(b), 0), api.ErrRest, 25)
	untold(t, raw, raw, api.ErrForm, 2)
	untold(t, raw, make([]byte, api.MaxBytes), api.ErrForm, 0)
	untold(t, raw, make([]byte, api.MaxBytes+1), api.ErrBytes, api.MaxBytes)
	untold(t, raw, append(bytes.Clone(b), make([]byte, api.MaxBytes)...), api.ErrBytes, api.MaxBytes)
}

func TestPlayOfAnyScriptBytes(t *testing.T) {
	for _, config := range configs() {
		raw := encoded(t, config)
		b := written(t, []api.Step{ticks(3), inject(1, -2), kill(0), ticks(1), inject(0, 7), ticks(9)})
		for i := range b {
			for _, v := range []byte{0, 1, 2, 3, 4, 128, 255, b[i] + 1} {
				c := with(b, i, v)
				if l, e, at := script.Decode(c); e != api.OK {
					untold(t, raw, c, e, at)
				} else {
					played(t, config, l)
				}
			}
		}
	}
}

// Where neither may be the config's error is told; barred asks that of many bytes, this of those that differ in their places.
func TestTheConfigsErrorComesFirst(t *testing.T) {
	raw, b := encoded(t, small()), written(t, []api.Step{ticks(1)})
	for n := range raw {
		for m := range len(b) + 1 {
			untold(t, raw[:n], b[:m], api.ErrShort, n)
		}
	}
	rest := append(bytes.Clone(raw), 1)
	for m := range len(b) + 1 {
		untold(t, rest, b[:m], api.ErrRest, len(raw))
	}
	untold(t, b, raw, api.ErrForm, 2)
	untold(t, b, b, api.ErrForm, 2)
	untold(t, make([]byte, api.MaxBytes+1), make([]byte, api.MaxBytes+1), api.ErrBytes, api.MaxBytes)
	untold(t, nil, make([]byte, api.MaxBytes+1), api.ErrShort, 0)
}

// P17.2: owners and ticks.

// times asks that answers tell the ticks and owners of a table, and nothing else of them.
func times(t *testing.T, got []api.Answer, l []api.Step, table []int) {
	t.Helper()
	ticks := 0
	for i, s := range l {
		if s.Kind == api.StepTick && s.N >= 1 && ticks+s.N <= 65536 {
			ticks += s.N
		}
		owner := -1
		if ticks > 0 {
			owner = table[(ticks-1)%len(table)]
		}
		if got[i].Tick != int64(ticks) || got[i].Owner != owner {
			t.Fatalf("step %d, %+v, table %v: %+v, not %d, %d", i, s, table, got[i], ticks, owner)
		}
	}
}

// above are the same ticks, with other injections and kills among them.
func (c *chance) above(l []api.Step) []api.Step {
	var out []api.Step
	for _, s := range l {
		for range c.next(4) {
			out = append(out, []api.Step{inject(c.next(40), int64(c.next(9))), kill(c.next(40))}[c.next(5)/4])
		}
		if s.Kind == api.StepTick {
			out = append(out, s)
		}
	}
	return out
}

// ofTicks are the answers to ticks.
func ofTicks(answers []api.Answer, l []api.Step) []api.Answer {
	var out []api.Answer
	for i, s := range l {
		if s.Kind == api.StepTick {
			out = append(out, answers[i])
		}
	}
	return out
}

// Configs of one table, whatever else they hold, and whatever is injected and killed, have the same owners and ticks.
func TestOwnersHangOnTheTableAlone(t *testing.T) {
	c := chance(6)
	for range 200 {
		most := c.next(4)
		table, l := c.table(most), c.steps()
		first, _ := played(t, c.config(table, most), l)
		times(t, first, l, table)
		for range 4 {
			other := c.above(l)
			got, _ := played(t, c.config(table, most), other)
			times(t, got, other, table)
			if got, want := ofTicks(got, other), ofTicks(first, l); !slices.Equal(got, want) {
				t.Fatalf("table %v: %+v, not %+v", table, got, want)
			}
		}
	}
}

func TestOwnersOfOneWhereNobodyLives(t *testing.T) {
	for _, config := range configs() {
		x := start(t, config)
		for p := range config.Procs {
			x.told(kill(p), answer(api.OK, 0, -1))
		}
		for n := range 200 {
			x.told(ticks(1), answer(api.OK, int64(n+1), config.Table[n%len(config.Table)]))
		}
	}
}

// A partition that stands in the table has a slot in any K ticks one behind the other.
func TestEachHasASlot(t *testing.T) {
	for _, config := range append(configs(), greatest()) {
		config.Fuel = 1
		r, _, _ := Boot(encoded(t, config))
		var owners []int
		for range 5 * len(config.Table) {
			owners = append(owners, r.Do(ticks(1)).Owner)
		}
		for from := range 4 * len(config.Table) {
			some := owners[from : from+len(config.Table)]
			for _, part := range config.Table {
				if !slices.Contains(some, part) {
					t.Errorf("from the tick %d on the partition %d has no slot in %v", from, part, some)
				}
			}
		}
	}
}

// P17.3: memory.

// whole is a list with all the room that is behind it.
func whole[T any](list []T) []T { return list[:cap(list)] }

// spare is a list with others in the room behind it.
func spare[T any](list []T, behind ...T) []T { return slices.Concat(list, behind)[:len(list)] }

// room is one list of an answer, with all the room behind it: what writes a number all over it, and what asks for it.
type room struct {
	write func(n int)
	holds func(n int) bool
}

func roomOf[T any](list []T, put func(x *T, n int), get func(x T) int) room {
	l := whole(list)
	return room{
		func(n int) {
			for i := range l {
				put(&l[i], n)
			}
		},
		func(n int) bool { return !slices.ContainsFunc(l, func(x T) bool { return get(x) != n }) },
	}
}

// roomOfInts is a list of numbers.
func roomOfInts[T int | int64](list []T) room {
	return roomOf(list, func(x *T, n int) { *x = T(n) }, func(x T) int { return int(x) })
}

// rooms are all lists of an answer.
func rooms(answers []api.Answer, s api.State) []room {
	out := []room{
		roomOf(answers, func(x *api.Answer, n int) { *x = answer(api.Errno(n), int64(n), n) }, func(x api.Answer) int { return x.Owner }),
		roomOf(s.Parts, func(x *api.Part, n int) { x.Cursor = n }, func(x api.Part) int { return x.Cursor }),
		roomOf(s.Procs, func(x *api.Process, n int) { x.PC = n }, func(x api.Process) int { return x.PC }),
	}
	for _, p := range s.Parts {
		out = append(out, roomOfInts(p.Owners),
			roomOf(p.Log, func(x *api.Entry, n int) { *x = api.Entry{Tick: int64(n), Proc: n, Value: int64(n)} }, func(x api.Entry) int { return x.Proc }),
			roomOf(p.Queues, func(x *[]int, n int) { *x = make([]int, n) }, func(x []int) int { return len(x) }))
		for _, q := range p.Queues {
			out = append(out, roomOfInts(q))
		}
	}
	for _, p := range s.Procs {
		out = append(out, roomOf(p.Lanes, func(x *api.Lane, n int) { x.Taken, x.Dropped = n, n }, func(x api.Lane) int { return x.Taken }))
		for _, l := range p.Lanes {
			out = append(out, roomOfInts(l.Values), roomOf(l.Waiters, func(x *api.Waiter, n int) { *x = api.Waiter{Proc: n, Value: int64(n)} }, func(x api.Waiter) int { return x.Proc }))
		}
	}
	return out
}

// scrawl writes over all lists of an answer.
func scrawl(answers []api.Answer, s api.State) {
	for i, r := range rooms(answers, s) {
		r.write(70 + i%9)
	}
}

// eventful is a script behind which a busy machine has something in each kind of list.
func eventful() []api.Step {
	return []api.Step{inject(4, 5), ticks(12), inject(3, 6), inject(3, 7), inject(3, 8), ticks(20), inject(9, 1), kill(20), ticks(9), ticks(0)}
}

func TestTheBusyMachineHasSomethingInEachList(t *testing.T) {
	_, s := played(t, busy(), eventful())
	var log, queue, values, waiters int
	for _, p := range s.Parts {
		log += len(p.Log)
		for _, q := range p.Queues {
			queue += len(q)
		}
	}
	for _, p := range s.Procs {
		for _, l := range p.Lanes {
			values += len(l.Values)
			waiters += len(l.Waiters)
		}
	}
	if min(log, queue, values, waiters) < 2 {
		t.Errorf("entries %d, in queues %d, messages %d, waiters %d", log, queue, values, waiters)
	}
}

func TestWhatIsHandedInIsLeftAsItWas(t *testing.T) {
	raws := [][]byte{nil, encoded(t, small()), encoded(t, busy()), encoded(t, greatest()), encoded(t, small())[:30], append(encoded(t, three()), 5), make([]byte, api.MaxBytes+1)}
	scripts := [][]byte{nil, written(t, nil), written(t, eventful()), written(t, eventful())[:20], append(written(t, eventful()), 5), make([]byte, api.MaxBytes+1)}
	for _, raw := range raws {
		for _, steps := range scripts {
			a, b := spare(raw, 71, 72, 73), spare(steps, 74, 75, 76)
			before, behind := bytes.Clone(whole(a)), bytes.Clone(whole(b))
			Play(a, b)
			if r, e, _ := Boot(a); e == api.OK {
				for _, s := range eventful() {
					r.Do(s)
					scrawl(nil, r.State())
				}
			}
			if !bytes.Equal(whole(a), before) || !bytes.Equal(whole(b), behind) {
				t.Errorf("%x, %x, not %x, %x", whole(a), whole(b), before, behind)
			}
		}
	}
}

// What stands in the room behind bytes is no part of them.
func TestSpareRoomIsNoPart(t *testing.T) {
	raw, steps := encoded(t, busy()), written(t, eventful())
	want, s := played(t, busy(), eventful())
	got, stands, e, at := Play(spare(raw, 1, 2, 3), spare(steps, 1, 2, 3))
	if e != api.OK || at != 0 || !slices.Equal(got, want) || stand(stands) != stand(s) {
		t.Errorf("%+v, %d, %d", got, e, at)
	}
	for n := range raw {
		untold(t, raw[:n:len(raw)], steps, api.ErrShort, n)
	}
	for n := range steps {
		untold(t, raw, steps[:n:len(steps)], api.ErrShort, n)
	}
}

func TestBootKeepsNothing(t *testing.T) {
	c := chance(7)
	for _, config := range configs() {
		raw := spare(encoded(t, config), 71, 72, 73)
		r, _, _ := Boot(raw)
		x := &pair{t, r, plainly(t, config)}
		for range 80 {
			for i := range whole(raw) {
				whole(raw)[i] = byte(c.next(256))
			}
			x.step(c.step())
		}
	}
}

func TestAStateIsItsOwners(t *testing.T) {
	c := chance(8)
	for range 100 {
		x := start(t, c.any())
		for range 30 {
			s, other := x.r.State(), x.r.State()
			scrawl(nil, s)
			if got, want := stand(other), stand(x.p.m.State()); got != want {
				t.Fatalf("scrawled over: %s, not %s", got, want)
			}
			x.look()
			x.step(c.step())
			if got, want := stand(other), stand(x.r.State()); got == want {
				continue
			}
			scrawl(nil, other)
			x.look()
		}
	}
}

// A State that was told is not changed by what is done behind it.
func TestAStateIsNotChangedAnyMore(t *testing.T) {
	for _, config := range configs() {
		x := start(t, config)
		var told []api.State
		var want []string
		for _, s := range slices.Concat(eventful(), eventful(), []api.Step{kill(0), kill(1), ticks(50)}) {
			told, want = append(told, x.r.State()), append(want, stand(x.r.State()))
			x.step(s)
		}
		for i := range told {
			if got := stand(told[i]); got != want[i] {
				t.Errorf("State number %d: %s, not %s", i, got, want[i])
			}
		}
	}
}

func TestWhatPlayAnswersIsItsOwners(t *testing.T) {
	raw, steps := encoded(t, busy()), written(t, eventful())
	want, stands := played(t, busy(), eventful())
	text := stand(stands)
	first, s, _, _ := Play(raw, steps)
	second, other, _, _ := Play(raw, steps)
	scrawl(first, s)
	if !slices.Equal(second, want) || stand(other) != text {
		t.Errorf("two answers share memory: %+v, %s", second, stand(other))
	}
	if !bytes.Equal(raw, encoded(t, busy())) || !bytes.Equal(steps, written(t, eventful())) {
		t.Errorf("an answer shares memory with what was handed in: %x, %x", raw, steps)
	}
	for i := range raw {
		raw[i] = 99
	}
	for i := range steps {
		steps[i] = 99
	}
	if !slices.Equal(second, want) || stand(other) != text {
		t.Errorf("what was handed in shares memory with an answer: %+v, %s", second, stand(other))
	}
	played(t, busy(), eventful())
}

// No two lists of one answer share memory: each has a number of its own written all over it, and holds it when all others have theirs.
func TestNoTwoListsOfAnAnswerShareMemory(t *testing.T) {
	for _, config := range []api.Config{busy(), three(), greatest()} {
		answers, s := played(t, config, eventful())
		all := rooms(answers, s)
		for i, r := range all {
			r.write(i + 1)
		}
		for i, r := range all {
			if !r.holds(i + 1) {
				t.Errorf("the list %d of %d was written over by another one", i, len(all))
			}
		}
	}
}

// Two runs of the same bytes do not see what is done in the other.
func TestRunsDoNotSeeEachOther(t *testing.T) {
	c := chance(9)
	for range 100 {
		config := c.any()
		raw := encoded(t, config)
		var runs []*pair
		for range 3 {
			r, _, _ := Boot(raw)
			runs = append(runs, &pair{t, r, plainly(t, config)})
		}
		for range 40 {
			runs[c.next(3)].step(c.step())
			for _, x := range runs {
				x.look()
			}
		}
	}
}

// R4: the same call has the same answer.
func TestTheSameCallHasTheSameAnswer(t *testing.T) {
	c := chance(10)
	for range 100 {
		raw, steps := encoded(t, c.any()), written(t, c.steps())
		l, s, e, at := Play(raw, steps)
		Play(encoded(t, busy()), written(t, eventful()))
		Play(nil, steps)
		again, stands, f, there := Play(raw, steps)
		if !slices.Equal(again, l) || stand(stands) != stand(s) || f != e || there != at {
			t.Fatalf("%+v, %d, %d, then %+v, %d, %d", l, e, at, again, f, there)
		}
	}
}

// R1: calls at once share nothing that is written.
func TestManyRunsAtOnce(t *testing.T) {
	raw, steps := encoded(t, busy()), written(t, eventful())
	want, s, _, _ := Play(raw, steps)
	text := stand(s)
	done := make(chan bool)
	for range 8 {
		go func() {
			ok := true
			for range 20 {
				l, s, e, _ := Play(raw, steps)
				ok = ok && e == api.OK && slices.Equal(l, want) && stand(s) == text
			}
			done <- ok
		}()
	}
	for range 8 {
		if !<-done {
			t.Error("a run was played as another one")
		}
	}
}
