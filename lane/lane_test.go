package lane

import (
	"math"
	"slices"
	"testing"

	"firebreak/api"
)

// wrongRooms are numbers that no lane's room may be.
var wrongRooms = []int{0, -1, -2, -64, math.MinInt, 65, 66, 128, 1 << 32, 1<<32 + 1, math.MaxInt}

// wrongCounts are numbers that no count may be.
var wrongCounts = []int{-1, -2, -65535, math.MinInt, 65536, 65537, 1 << 32, math.MaxInt}

// anybody are numbers of processes, which may be any int.
var anybody = []int{0, 1, -1, 31, 32, 1 << 32, math.MinInt, math.MaxInt}

// who is somebody that waits.
func who(p int, v int64) api.Waiter { return api.Waiter{Proc: p, Value: v} }

// numbers are so many messages, rising from one on.
func numbers(first int64, n int) []int64 {
	list := make([]int64, n)
	for i := range list {
		list[i] = first + int64(i)
	}
	return list
}

// queue are so many who wait, none of them twice.
func queue(n int) []api.Waiter {
	list := make([]api.Waiter, n)
	for i := range list {
		list[i] = who(n-2*i, int64(1000+i))
	}
	return list
}

func made(t *testing.T, room int) *Lane {
	t.Helper()
	l, e := New(room)
	if l == nil || e != api.OK {
		t.Fatalf("New(%d): %v, %d", room, l, e)
	}
	return l
}

func laid(t *testing.T, room int, s api.Lane) *Lane {
	t.Helper()
	l, e := Lay(room, s)
	if l == nil || e != api.OK {
		t.Fatalf("Lay(%d, %v): %v, %d", room, s, l, e)
	}
	return l
}

// same tells whether two lanes stand alike.
func same(a, b api.Lane) bool {
	return slices.Equal(a.Values, b.Values) && slices.Equal(a.Waiters, b.Waiters) && a.Taken == b.Taken && a.Dropped == b.Dropped
}

// is asks how a lane stands.
func is(t *testing.T, l *Lane, want api.Lane) {
	t.Helper()
	if got := l.State(); !same(got, want) || l.Len() != len(want.Values) {
		t.Errorf("State: %v with Len %d, not %v", got, l.Len(), want)
	}
}

func put(t *testing.T, l *Lane, v int64, want api.Errno) {
	t.Helper()
	if e := l.Put(v); e != want {
		t.Errorf("Put(%d): %d, not %d", v, e, want)
	}
}

func wait(t *testing.T, l *Lane, p int, v int64, want api.Errno) {
	t.Helper()
	if e := l.Wait(p, v); e != want {
		t.Errorf("Wait(%d, %d): %d, not %d", p, v, e, want)
	}
}

func leave(t *testing.T, l *Lane, p int, want bool) {
	t.Helper()
	if got := l.Leave(p); got != want {
		t.Errorf("Leave(%d): %v", p, got)
	}
}

func end(t *testing.T, l *Lane, want ...api.Waiter) {
	t.Helper()
	if got := l.End(); !slices.Equal(got, want) {
		t.Errorf("End: %v, not %v", got, want)
	}
}

// alone takes a message, and nobody is let in.
func alone(t *testing.T, l *Lane, want int64) {
	t.Helper()
	if v, in, let, e := l.Take(); v != want || in != (api.Waiter{}) || let || e != api.OK {
		t.Errorf("Take: %d, %v, %v, %d, not %d alone", v, in, let, e, want)
	}
}

// letting takes a message, and somebody is let in.
func letting(t *testing.T, l *Lane, want int64, w api.Waiter) {
	t.Helper()
	if v, in, let, e := l.Take(); v != want || in != w || !let || e != api.OK {
		t.Errorf("Take: %d, %v, %v, %d, not %d with %v", v, in, let, e, want, w)
	}
}

// nothing asks an empty lane for a message.
func nothing(t *testing.T, l *Lane) {
	t.Helper()
	if v, in, let, e := l.Take(); v != 0 || in != (api.Waiter{}) || let || e != api.ErrEmpty {
		t.Errorf("Take of an empty one: %d, %v, %v, %d", v, in, let, e)
	}
}

func TestErrorsAndLimitsThatComeHere(t *testing.T) {
	if api.OK != 0 || api.ErrArg != 1 || api.ErrForm != 4 || api.ErrTwice != 8 || api.ErrFull != 19 || api.ErrState != 20 || api.ErrEmpty != 21 {
		t.Error("the numbers of the errors")
	}
	if api.MaxLane != 64 || api.MaxCount != 65535 {
		t.Error("the limits of lanes and of counts")
	}
}

// P9.1

func TestNew(t *testing.T) {
	for room := 1; room <= 64; room++ {
		l := made(t, room)
		is(t, l, api.Lane{})
		nothing(t, l)
		wait(t, l, 0, 0, api.ErrState)
		for _, v := range numbers(1, room) {
			put(t, l, v, api.OK)
		}
		put(t, l, 0, api.ErrFull)
		is(t, l, api.Lane{Values: numbers(1, room)})
	}
}

func TestRoomThatMayNotBe(t *testing.T) {
	for _, room := range wrongRooms {
		if l, e := New(room); l != nil || e != api.ErrArg {
			t.Errorf("New(%d): %v, %d", room, l, e)
		}
		// ErrArg is ahead of all that may be wrong with how it stands.
		for _, s := range []api.Lane{
			{}, {Values: numbers(1, 1)}, {Values: numbers(1, 65)}, {Waiters: queue(1)}, {Taken: -1}, {Dropped: 65536},
			{Values: numbers(1, 64), Waiters: []api.Waiter{who(1, 1), who(1, 1)}, Taken: 65536, Dropped: -1},
		} {
			if l, e := Lay(room, s); l != nil || e != api.ErrArg {
				t.Errorf("Lay(%d, %v): %v, %d", room, s, l, e)
			}
		}
	}
}

func TestLayOfEveryRoomAndLength(t *testing.T) {
	for room := 1; room <= 64; room++ {
		for n := range 68 {
			s := api.Lane{Values: numbers(-3, n), Taken: n, Dropped: 2 * n}
			if n > room {
				refused(t, room, s)
				continue
			}
			is(t, laid(t, room, s), s)
		}
	}
}

// refused asks that a lane may not stand so.
func refused(t *testing.T, room int, s api.Lane) {
	t.Helper()
	if l, e := Lay(room, s); l != nil || e != api.ErrForm {
		t.Errorf("Lay(%d, %v): %v, %d, not ErrForm", room, s, l, e)
	}
}

func TestLayWithWaiters(t *testing.T) {
	for _, room := range []int{1, 2, 3, 63, 64} {
		for _, many := range []int{1, 2, 3, 31, 64, 65, 500} {
			for n := range room {
				refused(t, room, api.Lane{Values: numbers(1, n), Waiters: queue(many)})
			}
			refused(t, room, api.Lane{Values: numbers(1, room+1), Waiters: queue(many)})
			s := api.Lane{Values: numbers(1, room), Waiters: queue(many), Taken: 1, Dropped: 2}
			is(t, laid(t, room, s), s)
		}
	}
	// A list without elements is nobody, nil or not.
	is(t, laid(t, 2, api.Lane{Values: []int64{}, Waiters: []api.Waiter{}}), api.Lane{})
	is(t, laid(t, 2, api.Lane{Values: numbers(1, 1), Waiters: make([]api.Waiter, 0, 4)}), api.Lane{Values: numbers(1, 1)})
}

func TestLayOfOneProcTwice(t *testing.T) {
	for _, p := range anybody {
		others := []api.Waiter{who(5, 1), who(6, 1), who(7, 1)}
		for _, second := range []int64{3, 4} {
			for i := range 4 {
				for k := i; k < 4; k++ {
					l := slices.Insert(slices.Insert(slices.Clone(others), k, who(p, second)), i, who(p, 3))
					refused(t, 1, api.Lane{Values: numbers(1, 1), Waiters: l})
				}
			}
		}
		refused(t, 2, api.Lane{Values: numbers(1, 2), Waiters: []api.Waiter{who(p, 0), who(p, 0)}})
		// One message of several is none twice.
		s := api.Lane{Values: numbers(1, 2), Waiters: append(others, who(p, 1))}
		is(t, laid(t, 2, s), s)
	}
	long := queue(300)
	long[299].Proc = long[0].Proc
	refused(t, 1, api.Lane{Values: numbers(1, 1), Waiters: long})
	everybody := api.Lane{Values: numbers(1, 1)}
	for _, p := range anybody {
		everybody.Waiters = append(everybody.Waiters, who(p, 0))
	}
	is(t, laid(t, 1, everybody), everybody)
}

func TestLayOfCounts(t *testing.T) {
	for _, a := range []int{0, 1, 65534, 65535} {
		for _, b := range []int{0, 1, 65534, 65535} {
			s := api.Lane{Values: numbers(1, 1), Taken: a, Dropped: b}
			is(t, laid(t, 1, s), s)
			is(t, laid(t, 64, s), s)
		}
		for _, b := range wrongCounts {
			refused(t, 1, api.Lane{Taken: a, Dropped: b})
			refused(t, 1, api.Lane{Taken: b, Dropped: a})
			refused(t, 64, api.Lane{Values: numbers(1, 64), Waiters: queue(2), Taken: b})
			refused(t, 64, api.Lane{Values: numbers(1, 64), Waiters: queue(2), Dropped: b})
		}
	}
}

func TestLayOfAnyMessages(t *testing.T) {
	s := api.Lane{
		Values:  []int64{math.MinInt64, -1, 0, math.MaxInt64, 0},
		Waiters: []api.Waiter{who(1, math.MinInt64), who(2, math.MaxInt64), who(3, 0)},
	}
	l := laid(t, 5, s)
	is(t, l, s)
	letting(t, l, math.MinInt64, who(1, math.MinInt64))
	letting(t, l, -1, who(2, math.MaxInt64))
	letting(t, l, 0, who(3, 0))
	for _, v := range []int64{math.MaxInt64, 0, math.MinInt64, math.MaxInt64, 0} {
		alone(t, l, v)
	}
	nothing(t, l)
}

// P9.2

func TestPut(t *testing.T) {
	for room := 1; room <= 64; room++ {
		l := made(t, room)
		for i := range room {
			put(t, l, int64(10*i), api.OK)
			if l.Len() != i+1 {
				t.Errorf("Len behind %d of %d: %d", i+1, room, l.Len())
			}
		}
		was := l.State()
		for range 3 {
			put(t, l, 7, api.ErrFull)
			is(t, l, was)
		}
		// One less than full: there is room for just one.
		alone(t, l, 0)
		put(t, l, -7, api.OK)
		put(t, l, -8, api.ErrFull)
		is(t, l, api.Lane{Values: append(was.Values[1:], -7), Taken: 1})
	}
}

func TestPutWhereSomebodyWaits(t *testing.T) {
	s := api.Lane{Values: numbers(1, 2), Waiters: queue(2)}
	l := laid(t, 2, s)
	put(t, l, 9, api.ErrFull)
	is(t, l, s)
}

func TestDrop(t *testing.T) {
	for _, s := range []api.Lane{
		{}, {Values: numbers(1, 1), Taken: 4}, {Values: numbers(1, 2)}, {Values: numbers(1, 2), Waiters: queue(3), Taken: 65535},
	} {
		l := laid(t, 2, s)
		for range 5 {
			l.Drop()
			s.Dropped++
			is(t, l, s)
		}
	}
}

func TestDroppedSaturates(t *testing.T) {
	l := made(t, 1)
	for i := range 65540 {
		l.Drop()
		if got := l.State().Dropped; got != min(i+1, 65535) {
			t.Fatalf("Dropped behind %d: %d", i+1, got)
		}
	}
	is(t, l, api.Lane{Dropped: 65535})
	l = laid(t, 1, api.Lane{Taken: 3, Dropped: 65534})
	for range 3 {
		l.Drop()
		is(t, l, api.Lane{Taken: 3, Dropped: 65535})
	}
}

// P9.3

func TestTakeOfAnEmptyOne(t *testing.T) {
	for _, room := range []int{1, 2, 64} {
		s := api.Lane{Taken: 3, Dropped: 4}
		l := laid(t, room, s)
		for range 2 {
			nothing(t, l)
			is(t, l, s)
		}
		put(t, l, 5, api.OK)
		alone(t, l, 5)
		nothing(t, l)
		is(t, l, api.Lane{Taken: 4, Dropped: 4})
	}
}

func TestTakeLetsNobodyIn(t *testing.T) {
	for room := 1; room <= 64; room++ {
		for n := range room + 1 {
			l := laid(t, room, api.Lane{Values: numbers(1, n), Dropped: 9})
			for i, v := range numbers(1, n) {
				alone(t, l, v)
				is(t, l, api.Lane{Values: numbers(v+1, n-i-1), Taken: i + 1, Dropped: 9})
			}
			nothing(t, l)
		}
	}
}

func TestTakeLetsTheFirstIn(t *testing.T) {
	for _, room := range []int{1, 2, 3, 64} {
		for _, many := range []int{1, 2, 5, 70} {
			values, waiters := numbers(1, room), queue(many)
			l := laid(t, room, api.Lane{Values: values, Waiters: waiters})
			for i, w := range queue(many) {
				values, waiters = append(values, w.Value), waiters[1:]
				letting(t, l, values[0], w)
				values = values[1:]
				is(t, l, api.Lane{Values: values, Waiters: waiters, Taken: i + 1})
				put(t, l, 0, api.ErrFull)
			}
			for _, v := range values {
				alone(t, l, v)
			}
			nothing(t, l)
		}
	}
}

func TestLetInWithTheNumberAndTheMessage0(t *testing.T) {
	l := laid(t, 1, api.Lane{Values: numbers(4, 1), Waiters: []api.Waiter{who(0, 0)}})
	letting(t, l, 4, who(0, 0))
	alone(t, l, 0)
	nothing(t, l)
}

func TestWhoWasLetInMayWaitAgain(t *testing.T) {
	l := laid(t, 1, api.Lane{Values: numbers(1, 1), Waiters: []api.Waiter{who(7, 2), who(8, 3)}})
	letting(t, l, 1, who(7, 2))
	leave(t, l, 7, false)
	wait(t, l, 7, 4, api.OK)
	wait(t, l, 8, 5, api.ErrTwice)
	is(t, l, api.Lane{Values: numbers(2, 1), Waiters: []api.Waiter{who(8, 3), who(7, 4)}, Taken: 1})
}

func TestTakenSaturates(t *testing.T) {
	l := made(t, 1)
	for i := range 65540 {
		put(t, l, int64(i), api.OK)
		alone(t, l, int64(i))
		if got := l.State().Taken; got != min(i+1, 65535) {
			t.Fatalf("Taken behind %d: %d", i+1, got)
		}
	}
	l = laid(t, 2, api.Lane{Values: numbers(1, 2), Waiters: []api.Waiter{who(1, 3)}, Taken: 65534, Dropped: 2})
	letting(t, l, 1, who(1, 3))
	is(t, l, api.Lane{Values: numbers(2, 2), Taken: 65535, Dropped: 2})
	alone(t, l, 2)
	alone(t, l, 3)
	is(t, l, api.Lane{Taken: 65535, Dropped: 2})
	nothing(t, l)
}

// P9.4

func TestWait(t *testing.T) {
	for room := 1; room <= 64; room++ {
		for n := range room {
			s := api.Lane{Values: numbers(1, n), Taken: 1}
			l := laid(t, room, s)
			wait(t, l, 1, 2, api.ErrState)
			wait(t, l, 1, 2, api.ErrState)
			is(t, l, s)
		}
		s := api.Lane{Values: numbers(1, room), Dropped: 1}
		l := laid(t, room, s)
		for i, p := range anybody {
			wait(t, l, p, int64(i), api.OK)
			s.Waiters = append(s.Waiters, who(p, int64(i)))
			is(t, l, s)
			for _, w := range s.Waiters {
				wait(t, l, w.Proc, w.Value, api.ErrTwice)
				wait(t, l, w.Proc, w.Value+1, api.ErrTwice)
			}
			is(t, l, s)
		}
	}
}

func TestManyMayWait(t *testing.T) {
	l := laid(t, 1, api.Lane{Values: numbers(1, 1)})
	list := queue(1000)
	for _, w := range list {
		wait(t, l, w.Proc, w.Value, api.OK)
	}
	is(t, l, api.Lane{Values: numbers(1, 1), Waiters: list})
	end(t, l, list...)
}

func TestLeave(t *testing.T) {
	for many := range 6 {
		list := queue(many)
		s := api.Lane{Values: numbers(1, 2), Waiters: list, Taken: 3, Dropped: 4}
		for i, w := range list {
			l := laid(t, 2, s)
			rest := api.Lane{Values: s.Values, Waiters: slices.Delete(slices.Clone(list), i, i+1), Taken: 3, Dropped: 4}
			leave(t, l, w.Proc, true)
			is(t, l, rest)
			leave(t, l, w.Proc, false)
			is(t, l, rest)
			// Whoever comes back stands behind the others.
			wait(t, l, w.Proc, -9, api.OK)
			rest.Waiters = append(rest.Waiters, who(w.Proc, -9))
			is(t, l, rest)
			end(t, l, rest.Waiters...)
		}
		l := laid(t, 2, s)
		// Not one of these waits: other numbers, messages, places.
		for _, p := range []int{99, -99, 1000, 1001, many + 1, math.MinInt, math.MaxInt} {
			leave(t, l, p, false)
		}
		is(t, l, s)
	}
	for _, p := range anybody {
		leave(t, made(t, 1), p, false)
	}
}

func TestAllLeaveInAnyOrder(t *testing.T) {
	for _, order := range [][3]int{{0, 1, 2}, {0, 2, 1}, {1, 0, 2}, {1, 2, 0}, {2, 0, 1}, {2, 1, 0}} {
		list := []api.Waiter{who(0, 10), who(1, 11), who(2, 12)}
		l := laid(t, 1, api.Lane{Values: numbers(5, 1), Waiters: list})
		for _, p := range order {
			leave(t, l, p, true)
			list = slices.DeleteFunc(slices.Clone(list), func(w api.Waiter) bool { return w.Proc == p })
			is(t, l, api.Lane{Values: numbers(5, 1), Waiters: list})
		}
		alone(t, l, 5)
	}
}

func TestWhoLeftIsNotLetIn(t *testing.T) {
	l := laid(t, 1, api.Lane{Values: numbers(1, 1), Waiters: []api.Waiter{who(1, 2), who(2, 3), who(3, 4)}})
	leave(t, l, 1, true)
	letting(t, l, 1, who(2, 3))
	leave(t, l, 3, true)
	alone(t, l, 3)
	nothing(t, l)
}

func TestEnd(t *testing.T) {
	for _, many := range []int{0, 1, 2, 3, 64, 200} {
		s := api.Lane{Values: numbers(1, 3), Waiters: queue(many), Taken: 5, Dropped: 6}
		l := laid(t, 3, s)
		end(t, l, queue(many)...)
		after := api.Lane{Values: s.Values, Taken: 5, Dropped: 6}
		is(t, l, after)
		end(t, l)
		is(t, l, after)
		for _, w := range queue(many) {
			leave(t, l, w.Proc, false)
		}
		put(t, l, 0, api.ErrFull)
		alone(t, l, 1)
	}
	// Nobody can wait where it is not full.
	for n := range 3 {
		s := api.Lane{Values: numbers(1, n), Taken: 5}
		l := laid(t, 3, s)
		end(t, l)
		is(t, l, s)
	}
}

func TestWaitBehindEnd(t *testing.T) {
	l := laid(t, 1, api.Lane{Values: numbers(1, 1), Waiters: queue(2)})
	end(t, l, queue(2)...)
	for i, w := range queue(2) {
		wait(t, l, w.Proc, int64(i), api.OK)
	}
	end(t, l, who(2, 0), who(0, 1))
}

// P9.5

// chance makes numbers that look like chance, the same ones each time.
type chance uint64

func (c *chance) next(n int) int {
	*c = *c*6364136223846793005 + 1442695040888963407
	return int(uint64(*c>>33) % uint64(n))
}

// lanes is all that can be asked of a lane.
type lanes interface {
	Len() int
	Put(v int64) api.Errno
	Drop()
	Take() (int64, api.Waiter, bool, api.Errno)
	Wait(p int, v int64) api.Errno
	Leave(p int) bool
	End() []api.Waiter
	State() api.Lane
}

// plain is a lane as the chapter tells it: each call makes its lists anew.
type plain struct {
	room int
	s    api.Lane
}

func (l *plain) Len() int { return len(l.s.Values) }

func (l *plain) Put(v int64) api.Errno {
	if len(l.s.Values) == l.room {
		return api.ErrFull
	}
	l.s.Values = slices.Concat(l.s.Values, []int64{v})
	return api.OK
}

func (l *plain) Drop() {
	if l.s.Dropped < 65535 {
		l.s.Dropped++
	}
}

func (l *plain) Take() (int64, api.Waiter, bool, api.Errno) {
	if len(l.s.Values) == 0 {
		return 0, api.Waiter{}, false, api.ErrEmpty
	}
	first := l.s.Values[0]
	if l.s.Taken < 65535 {
		l.s.Taken++
	}
	if len(l.s.Waiters) == 0 {
		l.s.Values = slices.Concat(l.s.Values[1:])
		return first, api.Waiter{}, false, api.OK
	}
	in := l.s.Waiters[0]
	l.s.Values = slices.Concat(l.s.Values[1:], []int64{in.Value})
	l.s.Waiters = slices.Concat(l.s.Waiters[1:])
	return first, in, true, api.OK
}

func (l *plain) Wait(p int, v int64) api.Errno {
	if len(l.s.Values) != l.room {
		return api.ErrState
	}
	for _, w := range l.s.Waiters {
		if w.Proc == p {
			return api.ErrTwice
		}
	}
	l.s.Waiters = slices.Concat(l.s.Waiters, []api.Waiter{who(p, v)})
	return api.OK
}

func (l *plain) Leave(p int) bool {
	var rest []api.Waiter
	for _, w := range l.s.Waiters {
		if w.Proc != p {
			rest = append(rest, w)
		}
	}
	waited := len(rest) < len(l.s.Waiters)
	l.s.Waiters = rest
	return waited
}

func (l *plain) End() []api.Waiter {
	all := l.s.Waiters
	l.s.Waiters = nil
	return all
}

func (l *plain) State() api.Lane { return l.s }

// The calls that change a lane: Put, Drop, Take, End, and Wait and Leave of three processes.
const calls = 10

// answer is what a call answered, and how the lane stands behind it.
type answer struct {
	v   int64
	in  api.Waiter
	yes bool
	e   api.Errno
	out []api.Waiter
	s   api.Lane
	n   int
}

// call does one of the calls, with a message.
func call(l lanes, which int, v int64) answer {
	var a answer
	switch which {
	case 0:
		a.e = l.Put(v)
	case 1:
		l.Drop()
	case 2:
		a.v, a.in, a.yes, a.e = l.Take()
	case 3:
		a.out = l.End()
	case 4, 5, 6:
		a.e = l.Wait(which-4, v)
	default:
		a.yes = l.Leave(which - 7)
	}
	a.s, a.n = l.State(), l.Len()
	return a
}

// alike tells whether two answers are the same.
func alike(a, b answer) bool {
	return a.v == b.v && a.in == b.in && a.yes == b.yes && a.e == b.e && a.n == b.n && slices.Equal(a.out, b.out) && same(a.s, b.s)
}

// starts are some rooms and how lanes with these may stand.
func starts() []plain {
	return []plain{
		{1, api.Lane{}},
		{2, api.Lane{}},
		{3, api.Lane{Values: numbers(70, 2)}},
		{1, api.Lane{Values: numbers(70, 1), Waiters: []api.Waiter{who(2, 80), who(0, 81)}, Dropped: 65534}},
		{2, api.Lane{Values: numbers(70, 2), Waiters: []api.Waiter{who(0, 80), who(1, 81), who(2, 82)}, Taken: 65534}},
		{3, api.Lane{Values: numbers(70, 3), Waiters: []api.Waiter{who(9, 80), who(1, 81)}, Taken: 65535, Dropped: 65535}},
	}
}

func TestEveryRowOfCalls(t *testing.T) {
	const long = 5
	for _, start := range starts() {
		for row := range int(math.Pow(calls, long)) {
			l, twin := laid(t, start.room, start.s), start
			for i, rest := 0, row; i < long; i, rest = i+1, rest/calls {
				got, want := call(l, rest%calls, int64(i)), call(&twin, rest%calls, int64(i))
				if !alike(got, want) {
					t.Fatalf("%v, the row %05d (last digit first), the call %d: %v, not %v", start, row, i, got, want)
				}
			}
		}
	}
}

func TestLongRowsOfCalls(t *testing.T) {
	c := chance(9)
	for _, room := range []int{1, 2, 3, 7, 8, 9, 63, 64} {
		l, twin := made(t, room), &plain{room: room}
		for i := range 20000 {
			which := c.next(calls)
			// More messages come than go at times, so that great lanes are full and empty again.
			if ebb := i / 300 % 2; c.next(2) == 0 {
				which = 2 * ebb
			}
			got, want := call(l, which, int64(i)), call(twin, which, int64(i))
			if !alike(got, want) {
				t.Fatalf("room %d, step %d, call %d: %v, not %v", room, i, which, got, want)
			}
		}
	}
}

func TestMessagesAreTakenInTheirOrderEachOnce(t *testing.T) {
	c := chance(5)
	for _, room := range []int{1, 2, 5, 64} {
		l := made(t, room)
		var went, took []int64
		var waits []api.Waiter
		for i := range 20000 {
			v, p := int64(i), c.next(40)
			switch c.next(4) {
			case 0:
				if l.Put(v) == api.OK {
					went = append(went, v)
				}
			case 1:
				if l.Wait(p, v) == api.OK {
					waits = append(waits, who(p, v))
				}
			case 2:
				if l.Leave(p) {
					waits = slices.DeleteFunc(waits, func(w api.Waiter) bool { return w.Proc == p })
				}
			default:
				first, in, let, e := l.Take()
				if e == api.OK {
					took = append(took, first)
				}
				if let != (len(waits) > 0 && e == api.OK) || let && in != waits[0] {
					t.Fatalf("room %d, step %d: %v was let in, %v wait", room, i, in, waits)
				}
				if let {
					went, waits = append(went, in.Value), waits[1:]
				}
			}
			s := l.State()
			if len(s.Values) > room || len(s.Waiters) > 0 && len(s.Values) < room || s.Taken != len(took) {
				t.Fatalf("room %d, step %d: %v", room, i, s)
			}
			if !slices.Equal(s.Values, went[len(took):]) {
				t.Fatalf("room %d, step %d: %v is there, not %v", room, i, s.Values, went[len(took):])
			}
		}
		if len(took) < 1000 || !slices.Equal(took, went[:len(took)]) {
			t.Errorf("room %d: %d were taken, not in their order", room, len(took))
		}
	}
}

func TestLayOfStateIsTheSameLane(t *testing.T) {
	c := chance(3)
	for _, room := range []int{1, 2, 3, 64} {
		l := laid(t, room, api.Lane{Taken: 65500, Dropped: 65500})
		for i := range 4000 {
			if i%7 == 0 && room == 64 {
				for l.Put(int64(i)) == api.OK {
				}
			}
			call(l, c.next(calls), int64(i))
			again, on := laid(t, room, l.State()), laid(t, room, l.State())
			is(t, again, l.State())
			for k := range 6 {
				which := c.next(calls)
				got := call(again, which, int64(k))
				again = laid(t, room, got.s)
				if want := call(on, which, int64(k)); !alike(got, want) {
					t.Fatalf("room %d, step %d, call %d: %v, not %v", room, i, which, got, want)
				}
			}
		}
	}
}

// P9.6

// spare is a list with room behind it, in which something stands.
func spare[T any](list, behind []T) []T {
	return slices.Concat(list, behind)[:len(list)]
}

// work does much with a lane: each of its lists grows and shrinks.
func work(l *Lane) {
	for i := range 200 {
		call(l, 2, 0)
		call(l, 0, int64(500+i))
		for which := range calls {
			call(l, (which+i)%calls, int64(600+i))
		}
	}
}

// whole is a list with all the room that is behind it.
func whole[T any](list []T) []T { return list[:cap(list)] }

func TestLayNeitherChangesNorKeepsWhatIsHandedIn(t *testing.T) {
	for _, room := range []int{1, 2, 5, 64} {
		want := api.Lane{Values: numbers(1, room), Waiters: queue(4), Taken: 2, Dropped: 3}
		s := api.Lane{Values: spare(want.Values, numbers(90, 70)), Waiters: spare(want.Waiters, queue(70)), Taken: 2, Dropped: 3}
		values, waiters := slices.Clone(whole(s.Values)), slices.Clone(whole(s.Waiters))
		l, busy := laid(t, room, s), laid(t, room, s)
		work(busy)
		if !slices.Equal(whole(s.Values), values) || !slices.Equal(whole(s.Waiters), waiters) {
			t.Fatalf("room %d: Lay, and what came behind it, made %v of what was handed in", room, s)
		}
		for i := range whole(s.Values) {
			whole(s.Values)[i] = -1
		}
		for i := range whole(s.Waiters) {
			whole(s.Waiters)[i] = who(-1, -1)
		}
		is(t, l, want)
		letting(t, l, 1, queue(4)[0])
		end(t, l, queue(4)[1:]...)
	}
}

func TestLayNeitherChangesNorKeepsAPartOfTheRoom(t *testing.T) {
	back := numbers(1, 8)
	l := laid(t, 4, api.Lane{Values: back[:2]})
	put(t, l, 70, api.OK)
	put(t, l, 71, api.OK)
	alone(t, l, 1)
	put(t, l, 72, api.OK)
	if !slices.Equal(back, numbers(1, 8)) {
		t.Errorf("Put wrote into what was handed in: %v", back)
	}
}

func TestLayOfWhatMayNotBeChangesNothing(t *testing.T) {
	for _, room := range []int{0, 1, 2, 3, 65} {
		s := api.Lane{Values: spare(numbers(1, 2), numbers(9, 9)), Waiters: spare([]api.Waiter{who(3, 1), who(2, 1), who(3, 1)}, queue(9))}
		values, waiters := slices.Clone(whole(s.Values)), slices.Clone(whole(s.Waiters))
		if l, e := Lay(room, s); l != nil || e == api.OK {
			t.Errorf("Lay(%d, %v): %v, %d", room, s, l, e)
		}
		if !slices.Equal(whole(s.Values), values) || !slices.Equal(whole(s.Waiters), waiters) {
			t.Errorf("Lay(%d) made %v of what was handed in", room, s)
		}
	}
}

// scribble writes over all that a list has, and the room behind it.
func scribble[T any](list []T, with T) {
	for i := range whole(list) {
		whole(list)[i] = with
	}
}

func TestStateSharesNoMemory(t *testing.T) {
	c := chance(7)
	for _, start := range starts() {
		l := laid(t, start.room, start.s)
		values, waiters := 0, 0
		for i := range 500 {
			call(l, c.next(3)/2*2, int64(i))
			call(l, c.next(calls), int64(i))
			a, b, want := l.State(), l.State(), laid(t, start.room, l.State()).State()
			values, waiters = values+len(a.Values), waiters+len(a.Waiters)
			scribble(a.Values, -1)
			scribble(a.Waiters, who(-1, -1))
			if !same(b, want) {
				t.Fatalf("%v, step %d: two answers share memory: %v", start, i, b)
			}
			is(t, l, want)
			work(l)
			if !same(b, want) {
				t.Fatalf("%v, step %d: what came later made %v of an answer", start, i, b)
			}
			l = laid(t, start.room, want)
		}
		if values < 100 || waiters < 100 {
			t.Errorf("%v: %d messages and %d waiters are too few to tell", start, values, waiters)
		}
	}
}

func TestEndSharesNoMemory(t *testing.T) {
	for many := range 9 {
		l := laid(t, 1, api.Lane{Values: numbers(1, 1), Waiters: queue(many)})
		out := l.End()
		wait(t, l, 50, 1, api.OK)
		wait(t, l, 51, 2, api.OK)
		if !slices.Equal(out, queue(many)) {
			t.Fatalf("Wait made %v of what End answered", out)
		}
		scribble(out, who(-1, -1))
		// Room behind an answer is its own, too.
		_ = append(out, who(-2, -2))
		is(t, l, api.Lane{Values: numbers(1, 1), Waiters: []api.Waiter{who(50, 1), who(51, 2)}})
		// The lists of an earlier State and of End are not one.
		s := l.State()
		scribble(l.End(), who(-1, -1))
		if !slices.Equal(s.Waiters, []api.Waiter{who(50, 1), who(51, 2)}) {
			t.Errorf("what End answered is State's: %v", s.Waiters)
		}
	}
}

func TestEndSharesNoMemoryBehindOthersWhoLeft(t *testing.T) {
	l := laid(t, 1, api.Lane{Values: numbers(1, 1), Waiters: queue(4)})
	leave(t, l, queue(4)[1].Proc, true)
	letting(t, l, 1, queue(4)[0])
	out := l.End()
	if !slices.Equal(out, queue(4)[2:]) {
		t.Fatalf("End: %v", out)
	}
	for i := range 4 {
		wait(t, l, 60+i, 0, api.OK)
	}
	scribble(out, who(-1, -1))
	end(t, l, who(60, 0), who(61, 0), who(62, 0), who(63, 0))
}

func TestLanesLaidAlikeAreTheirOwn(t *testing.T) {
	s := api.Lane{Values: numbers(1, 3), Waiters: queue(3)}
	a, b := laid(t, 3, s), laid(t, 3, s)
	work(a)
	is(t, b, api.Lane{Values: numbers(1, 3), Waiters: queue(3)})
}

// R4
func TestAskingChangesNothing(t *testing.T) {
	for _, start := range starts() {
		l := laid(t, start.room, start.s)
		for range 3 {
			is(t, l, start.s)
		}
	}
}

// The chapter's examples

func TestExamples(t *testing.T) {
	l := made(t, 2)
	put(t, l, 5, api.OK)
	put(t, l, 6, api.OK)
	put(t, l, 7, api.ErrFull)
	if l.Len() != 2 {
		t.Errorf("Len: %d", l.Len())
	}
	wait(t, l, 1, 7, api.OK)
	wait(t, l, 1, 8, api.ErrTwice)
	wait(t, l, 3, 9, api.OK)
	letting(t, l, 5, who(1, 7))
	is(t, l, api.Lane{Values: []int64{6, 7}, Waiters: []api.Waiter{who(3, 9)}, Taken: 1})
	leave(t, l, 3, true)
	leave(t, l, 3, false)
	alone(t, l, 6)
	wait(t, l, 4, 1, api.ErrState)
	l.Drop()
	is(t, l, api.Lane{Values: []int64{7}, Taken: 2, Dropped: 1})
	put(t, l, 8, api.OK)
	wait(t, l, 9, 1, api.OK)
	end(t, l, who(9, 1))
	end(t, l)
	alone(t, l, 7)
	alone(t, l, 8)
	nothing(t, l)
}

func TestExamplesOfLay(t *testing.T) {
	s := api.Lane{Values: []int64{1}, Waiters: []api.Waiter{who(3, 4)}}
	refused(t, 2, s)
	if n := laid(t, 1, s).Len(); n != 1 {
		t.Errorf("Len: %d", n)
	}
	l := laid(t, 1, api.Lane{Dropped: 65535})
	l.Drop()
	is(t, l, api.Lane{Dropped: 65535})
}
