package post

import (
	"math"
	"slices"
	"testing"

	"firebreak/api"
)

// wrongLanes are how many lanes no process may have; wrongRooms are numbers that no lane's room may be.
var (
	wrongLanes = []int{0, -1, -9, math.MinInt, 10, 11, 64, 1 << 32, 1<<32 + 1, math.MaxInt}
	wrongRooms = []int{0, -1, -64, math.MinInt, 65, 66, 1 << 32, 1<<32 + 1, math.MaxInt}
)

// anybody are numbers of processes, which may be any int.
var anybody = []int{0, 1, -1, 31, 32, 1 << 32, math.MinInt, math.MaxInt}

// nowhere are numbers that are no lane's, of so many lanes.
func nowhere(lanes int) []int {
	return []int{-1, -2, -lanes, math.MinInt, lanes, lanes + 1, 2 * lanes, 1 << 32, 1<<32 + 1, math.MaxInt}
}

// who is somebody that waits.
func who(p int, v int64) api.Waiter { return api.Waiter{Proc: p, Value: v} }

// numbers are so many messages, rising from one on.
func numbers(first int64, n int) []int64 {
	list := make([]int64, n)
	for i := range list {
		list[i] = first + int64(i)
	}
	return list
}

// some is a lane with just these messages.
func some(values ...int64) api.Lane { return api.Lane{Values: values} }

// crowd is a lane that is full, with so many who wait; each lane has its own messages and its own processes.
func crowd(number, room, many int) api.Lane {
	s := api.Lane{Values: numbers(int64(1000*number), room), Taken: number, Dropped: 2 * number}
	for i := range many {
		s.Waiters = append(s.Waiters, who(100*number+many-2*i, int64(1000*number+500+i)))
	}
	return s
}

// crowds are so many of them.
func crowds(lanes, room, many int) []api.Lane {
	list := make([]api.Lane, lanes)
	for i := range list {
		list[i] = crowd(i, room, many)
	}
	return list
}

func made(t *testing.T, lanes, room int) *Post {
	t.Helper()
	p, e := New(lanes, room)
	if p == nil || e != api.OK {
		t.Fatalf("New(%d, %d): %v, %d", lanes, room, p, e)
	}
	return p
}

func laid(t *testing.T, room int, l []api.Lane, cursor int) *Post {
	t.Helper()
	p, e := Lay(room, l, cursor)
	if p == nil || e != api.OK {
		t.Fatalf("Lay(%d, %v, %d): %v, %d", room, l, cursor, p, e)
	}
	return p
}

// refused asks that lanes may not stand so.
func refused(t *testing.T, room int, l []api.Lane, cursor int, want api.Errno) {
	t.Helper()
	if p, e := Lay(room, l, cursor); p != nil || e != want {
		t.Errorf("Lay(%d, %v, %d): %v, %d, not %d", room, l, cursor, p, e, want)
	}
}

// same tells whether two lanes stand alike.
func same(a, b api.Lane) bool {
	return slices.Equal(a.Values, b.Values) && slices.Equal(a.Waiters, b.Waiters) && a.Taken == b.Taken && a.Dropped == b.Dropped
}

// is asks how a post stands.
func is(t *testing.T, p *Post, want []api.Lane, cursor int) {
	t.Helper()
	got, at := p.State()
	if !slices.EqualFunc(got, want, same) || at != cursor {
		t.Errorf("State: %v, %d, not %v, %d", got, at, want, cursor)
	}
	message := slices.ContainsFunc(want, func(s api.Lane) bool { return len(s.Values) > 0 })
	if p.Some() != message {
		t.Errorf("Some of %v: %v", want, !message)
	}
}

func put(t *testing.T, p *Post, lane int, v int64, want api.Errno) {
	t.Helper()
	if e := p.Put(lane, v); e != want {
		t.Errorf("Put(%d, %d): %d, not %d", lane, v, e, want)
	}
}

func wait(t *testing.T, p *Post, lane, proc int, v int64, want api.Errno) {
	t.Helper()
	if e := p.Wait(lane, proc, v); e != want {
		t.Errorf("Wait(%d, %d, %d): %d, not %d", lane, proc, v, e, want)
	}
}

func leave(t *testing.T, p *Post, proc int, want bool) {
	t.Helper()
	if got := p.Leave(proc); got != want {
		t.Errorf("Leave(%d): %v", proc, got)
	}
}

func end(t *testing.T, p *Post, want ...api.Waiter) {
	t.Helper()
	if got := p.End(); !slices.Equal(got, want) {
		t.Errorf("End: %v, not %v", got, want)
	}
}

// alone takes a message of a lane, and nobody is let in.
func alone(t *testing.T, p *Post, want int64, of int) {
	t.Helper()
	if v, lane, in, let, e := p.Take(); v != want || lane != of || in != (api.Waiter{}) || let || e != api.OK {
		t.Errorf("Take: %d of %d, %v, %v, %d, not %d of %d alone", v, lane, in, let, e, want, of)
	}
}

// letting takes a message of a lane, and somebody is let in.
func letting(t *testing.T, p *Post, want int64, of int, w api.Waiter) {
	t.Helper()
	if v, lane, in, let, e := p.Take(); v != want || lane != of || in != w || !let || e != api.OK {
		t.Errorf("Take: %d of %d, %v, %v, %d, not %d of %d with %v", v, lane, in, let, e, want, of, w)
	}
}

// nothing asks empty lanes for a message.
func nothing(t *testing.T, p *Post) {
	t.Helper()
	if v, lane, in, let, e := p.Take(); v != 0 || lane != 0 || in != (api.Waiter{}) || let || e != api.ErrEmpty {
		t.Errorf("Take of empty lanes: %d, %d, %v, %v, %d", v, lane, in, let, e)
	}
}

func TestErrorsAndLimitsThatComeHere(t *testing.T) {
	if api.OK != 0 || api.ErrArg != 1 || api.ErrRange != 2 || api.ErrForm != 4 || api.ErrTwice != 8 || api.ErrFull != 19 || api.ErrState != 20 || api.ErrEmpty != 21 {
		t.Error("the numbers of the errors")
	}
	if api.MaxParts != 8 || api.MaxLane != 64 || api.MaxCount != 65535 {
		t.Error("the limits of lanes and of counts")
	}
}

// P10.1

func TestNew(t *testing.T) {
	for lanes := 1; lanes <= 9; lanes++ {
		for room := 1; room <= 64; room++ {
			p := made(t, lanes, room)
			is(t, p, make([]api.Lane, lanes), 0)
			nothing(t, p)
			for lane := range lanes {
				for i := range room {
					put(t, p, lane, int64(i), api.OK)
				}
				put(t, p, lane, 0, api.ErrFull)
			}
			put(t, p, lanes, 0, api.ErrRange)
		}
	}
}

func TestLanesAndRoomThatMayNotBe(t *testing.T) {
	none := func(lanes, room int) {
		if p, e := New(lanes, room); p != nil || e != api.ErrArg {
			t.Errorf("New(%d, %d): %v, %d", lanes, room, p, e)
		}
	}
	for _, lanes := range wrongLanes {
		for _, room := range append([]int{1, 2, 64}, wrongRooms...) {
			none(lanes, room)
		}
	}
	for _, room := range wrongRooms {
		for lanes := 1; lanes <= 9; lanes++ {
			none(lanes, room)
		}
	}
}

func TestLayOfLanesAndRoomThatMayNotBe(t *testing.T) {
	// ErrArg is ahead of all that may be wrong with the cursor and the lanes.
	for _, cursor := range []int{0, 1, -1, 9, 10, math.MinInt, math.MaxInt} {
		for _, lanes := range []int{0, 10, 11, 100} {
			for _, room := range append([]int{1, 2, 64}, wrongRooms...) {
				refused(t, room, make([]api.Lane, lanes), cursor, api.ErrArg)
				refused(t, room, crowds(lanes, 65, 2), cursor, api.ErrArg)
			}
		}
		refused(t, 1, nil, cursor, api.ErrArg)
		for _, room := range wrongRooms {
			for lanes := 1; lanes <= 9; lanes++ {
				refused(t, room, make([]api.Lane, lanes), cursor, api.ErrArg)
				refused(t, room, crowds(lanes, 65, 2), cursor, api.ErrArg)
			}
		}
	}
}

func TestLayOfTheCursor(t *testing.T) {
	for lanes := 1; lanes <= 9; lanes++ {
		for cursor := range lanes {
			is(t, laid(t, 2, make([]api.Lane, lanes), cursor), make([]api.Lane, lanes), cursor)
			is(t, laid(t, 2, crowds(lanes, 2, 3), cursor), crowds(lanes, 2, 3), cursor)
		}
		for _, cursor := range nowhere(lanes) {
			refused(t, 2, make([]api.Lane, lanes), cursor, api.ErrRange)
			// ErrRange is ahead of what may be wrong with the lanes.
			refused(t, 2, crowds(lanes, 3, 0), cursor, api.ErrRange)
		}
	}
}

func TestLayOfALaneThatMayNotBe(t *testing.T) {
	wrong := []api.Lane{
		some(1, 2, 3),
		{Values: numbers(1, 1), Waiters: []api.Waiter{who(1, 1)}},
		{Waiters: []api.Waiter{who(1, 1)}},
		{Values: numbers(1, 2), Waiters: []api.Waiter{who(1, 1), who(2, 1), who(1, 2)}},
		{Taken: -1}, {Taken: 65536}, {Dropped: -1}, {Dropped: 65536},
	}
	for lanes := 1; lanes <= 9; lanes++ {
		for at := range lanes {
			for _, s := range wrong {
				list := crowds(lanes, 2, 2)
				list[at] = s
				refused(t, 2, list, lanes-1-at, api.ErrForm)
				list = make([]api.Lane, lanes)
				list[at] = s
				refused(t, 2, list, 0, api.ErrForm)
			}
		}
	}
}

func TestLay(t *testing.T) {
	for _, room := range []int{1, 2, 63, 64} {
		for lanes := 1; lanes <= 9; lanes++ {
			for _, many := range []int{0, 1, 40} {
				want := crowds(lanes, room, many)
				is(t, laid(t, room, want, lanes-1), want, lanes-1)
				want[lanes/2] = api.Lane{Taken: 65535, Dropped: 65535}
				is(t, laid(t, room, want, 0), want, 0)
			}
		}
	}
	// A list without elements is nothing, nil or not.
	is(t, laid(t, 2, []api.Lane{{Values: []int64{}, Waiters: []api.Waiter{}}, {Waiters: make([]api.Waiter, 0, 4)}}, 1), make([]api.Lane, 2), 1)
}

// P10.2

func TestPut(t *testing.T) {
	for lanes := 1; lanes <= 9; lanes++ {
		for lane := range lanes {
			for _, cursor := range []int{0, lanes - 1} {
				list := make([]api.Lane, lanes)
				p := laid(t, 2, list, cursor)
				put(t, p, lane, 7, api.OK)
				list[lane] = some(7)
				is(t, p, list, cursor)
				put(t, p, lane, -8, api.OK)
				list[lane] = some(7, -8)
				is(t, p, list, cursor)
				put(t, p, lane, 9, api.ErrFull)
				is(t, p, list, cursor)
				other := (lane + 1) % lanes
				if other != lane {
					put(t, p, other, 9, api.OK)
					list[other] = some(9)
				}
				is(t, p, list, cursor)
			}
		}
	}
}

func TestPutWhereSomebodyWaits(t *testing.T) {
	p := laid(t, 2, crowds(3, 2, 2), 1)
	for lane := range 3 {
		put(t, p, lane, 5, api.ErrFull)
	}
	is(t, p, crowds(3, 2, 2), 1)
}

func TestDrop(t *testing.T) {
	for lanes := 1; lanes <= 9; lanes++ {
		for lane := range lanes {
			list := crowds(lanes, 1, 1)
			p := laid(t, 1, list, lane)
			for range 3 {
				p.Drop(lane)
				list[lane].Dropped++
				is(t, p, list, lane)
			}
		}
	}
}

func TestDroppedAndTakenSaturate(t *testing.T) {
	p := laid(t, 2, []api.Lane{{Values: numbers(1, 2), Taken: 65534, Dropped: 65534}, {Taken: 3, Dropped: 4}}, 1)
	for range 3 {
		p.Drop(0)
	}
	alone(t, p, 1, 0)
	alone(t, p, 2, 0)
	is(t, p, []api.Lane{{Taken: 65535, Dropped: 65535}, {Taken: 3, Dropped: 4}}, 1)
}

func TestALaneThatIsNone(t *testing.T) {
	for lanes := 1; lanes <= 9; lanes++ {
		for _, list := range [][]api.Lane{make([]api.Lane, lanes), crowds(lanes, 1, 1)} {
			p := laid(t, 1, list, lanes-1)
			for _, lane := range nowhere(lanes) {
				put(t, p, lane, 1, api.ErrRange)
				p.Drop(lane)
				for _, proc := range anybody {
					wait(t, p, lane, proc, 1, api.ErrRange)
				}
			}
			is(t, p, list, lanes-1)
		}
	}
}

// P10.3

func TestTakeOfOneLaneFromEveryCursor(t *testing.T) {
	for lanes := 1; lanes <= 9; lanes++ {
		for lane := range lanes {
			for cursor := range lanes {
				list := make([]api.Lane, lanes)
				list[lane] = api.Lane{Values: numbers(7, 2), Taken: 4, Dropped: 5}
				p := laid(t, 3, list, cursor)
				alone(t, p, 7, lane)
				list[lane] = api.Lane{Values: numbers(8, 1), Taken: 5, Dropped: 5}
				is(t, p, list, (lane+1)%lanes)
				alone(t, p, 8, lane)
				list[lane] = api.Lane{Taken: 6, Dropped: 5}
				is(t, p, list, (lane+1)%lanes)
				nothing(t, p)
				is(t, p, list, (lane+1)%lanes)
			}
		}
	}
}

func TestTakeFindsTheFirstOfSeveral(t *testing.T) {
	for lanes := 1; lanes <= 9; lanes++ {
		for which := range 1 << lanes {
			for cursor := range lanes {
				list := make([]api.Lane, lanes)
				for lane := range list {
					if which>>lane&1 == 1 {
						list[lane] = some(int64(10 + lane))
					}
				}
				p := laid(t, 1, list, cursor)
				last := cursor
				for i := range lanes {
					if lane := (cursor + i) % lanes; which>>lane&1 == 1 {
						alone(t, p, int64(10+lane), lane)
						list[lane], last = api.Lane{Taken: 1}, (lane+1)%lanes
						is(t, p, list, last)
					}
				}
				nothing(t, p)
				is(t, p, list, last)
			}
		}
	}
}

func TestTakeOfNothingLetsTheCursorStay(t *testing.T) {
	for lanes := 1; lanes <= 9; lanes++ {
		for cursor := range lanes {
			p := laid(t, 1, make([]api.Lane, lanes), cursor)
			for range lanes + 1 {
				nothing(t, p)
				is(t, p, make([]api.Lane, lanes), cursor)
			}
		}
	}
}

func TestTakeGoesRoundTheEnd(t *testing.T) {
	p := laid(t, 2, []api.Lane{some(1, 2), some(), some(3, 4)}, 2)
	alone(t, p, 3, 2)
	alone(t, p, 1, 0)
	alone(t, p, 4, 2)
	is(t, p, []api.Lane{{Values: numbers(2, 1), Taken: 1}, {}, {Taken: 2}}, 0)
	alone(t, p, 2, 0)
	nothing(t, p)
	put(t, p, 0, 5, api.OK)
	// All the way round, back to the lane just ahead of the cursor.
	alone(t, p, 5, 0)
}

func TestTakeLetsTheFirstIn(t *testing.T) {
	for _, room := range []int{1, 2, 64} {
		for lanes := 1; lanes <= 9; lanes++ {
			list := crowds(lanes, room, 3)
			p := laid(t, room, list, lanes-1)
			for i := range 3 * lanes {
				lane := (lanes - 1 + i) % lanes
				s := &list[lane]
				in := s.Waiters[0]
				letting(t, p, s.Values[0], lane, in)
				s.Values, s.Waiters = append(s.Values[1:], in.Value), s.Waiters[1:]
				s.Taken++
				is(t, p, list, (lane+1)%lanes)
			}
			for i := range lanes {
				lane := (lanes - 1 + i) % lanes
				alone(t, p, list[lane].Values[0], lane)
			}
		}
	}
}

func TestLetInWithTheNumberAndTheMessage0(t *testing.T) {
	p := laid(t, 1, []api.Lane{{}, {Values: numbers(4, 1), Waiters: []api.Waiter{who(0, 0)}}}, 0)
	letting(t, p, 4, 1, who(0, 0))
	alone(t, p, 0, 1)
	nothing(t, p)
}

func TestWhoWasLetInMayWaitElsewhere(t *testing.T) {
	p := laid(t, 1, []api.Lane{{Values: numbers(1, 1), Waiters: []api.Waiter{who(7, 2)}}, some(3)}, 0)
	wait(t, p, 1, 7, 4, api.ErrTwice)
	letting(t, p, 1, 0, who(7, 2))
	wait(t, p, 1, 7, 4, api.OK)
	wait(t, p, 0, 7, 5, api.ErrTwice)
	is(t, p, []api.Lane{{Values: numbers(2, 1), Taken: 1}, {Values: numbers(3, 1), Waiters: []api.Waiter{who(7, 4)}}}, 1)
}

// P10.4

func TestWait(t *testing.T) {
	for lanes := 1; lanes <= 9; lanes++ {
		for lane := range lanes {
			list := make([]api.Lane, lanes)
			list[lane] = some(1)
			p := laid(t, 2, list, lane)
			for _, proc := range anybody {
				for each := range lanes {
					wait(t, p, each, proc, 1, api.ErrState)
				}
			}
			is(t, p, list, lane)
			put(t, p, lane, 2, api.OK)
			list[lane].Values = numbers(1, 2)
			for i, proc := range anybody {
				wait(t, p, lane, proc, int64(i), api.OK)
				list[lane].Waiters = append(list[lane].Waiters, who(proc, int64(i)))
				is(t, p, list, lane)
			}
			// In that very lane, and in others, which are not full: ErrTwice is ahead of ErrState.
			for _, proc := range anybody {
				for each := range lanes {
					wait(t, p, each, proc, 5, api.ErrTwice)
				}
			}
			is(t, p, list, lane)
			for each := range lanes {
				if each != lane {
					wait(t, p, each, 77, 1, api.ErrState)
				}
			}
			is(t, p, list, lane)
		}
	}
}

func TestWaitOfWhoWaitsInAnotherLane(t *testing.T) {
	for lanes := 2; lanes <= 9; lanes++ {
		for lane := range lanes {
			for other := range lanes {
				list := crowds(lanes, 1, 2)
				list[other] = crowd(other, 1, 0)
				p := laid(t, 1, list, 0)
				for i, w := range list[lane].Waiters {
					wait(t, p, other, w.Proc, 1, api.ErrTwice)
					is(t, p, list, 0)
					leave(t, p, w.Proc, true)
					wait(t, p, other, w.Proc, int64(i), api.OK)
					list[lane].Waiters = list[lane].Waiters[1:]
					list[other].Waiters = append(list[other].Waiters, who(w.Proc, int64(i)))
					is(t, p, list, 0)
				}
			}
		}
	}
}

func TestLeave(t *testing.T) {
	for lanes := 1; lanes <= 9; lanes++ {
		for lane := range lanes {
			for i, w := range crowd(lane, 2, 3).Waiters {
				list := crowds(lanes, 2, 3)
				p := laid(t, 2, list, lane)
				leave(t, p, w.Proc, true)
				list[lane].Waiters = slices.Delete(list[lane].Waiters, i, i+1)
				is(t, p, list, lane)
				leave(t, p, w.Proc, false)
				is(t, p, list, lane)
				// Whoever comes back stands behind the others.
				wait(t, p, lane, w.Proc, -9, api.OK)
				list[lane].Waiters = append(list[lane].Waiters, who(w.Proc, -9))
				is(t, p, list, lane)
			}
		}
		p := laid(t, 2, crowds(lanes, 2, 3), 0)
		for _, proc := range []int{-99, 50, 1000, 1500, math.MinInt, math.MaxInt} {
			leave(t, p, proc, false)
		}
		is(t, p, crowds(lanes, 2, 3), 0)
		for _, proc := range anybody {
			leave(t, made(t, lanes, 1), proc, false)
		}
	}
}

// Lay refuses nobody who waits in two lanes; that process waits in whichever lane of them.
func TestOneProcessLaidInSeveralLanes(t *testing.T) {
	both := func(first, last api.Waiter) []api.Lane {
		return []api.Lane{
			{Values: numbers(1, 1), Waiters: []api.Waiter{first, who(5, 50)}},
			some(),
			{Values: numbers(2, 1), Waiters: []api.Waiter{who(6, 60), last}},
			some(3),
		}
	}
	list := both(who(4, 40), who(4, 41))
	p := laid(t, 1, list, 0)
	is(t, p, list, 0)
	for lane := range 4 {
		wait(t, p, lane, 4, 9, api.ErrTwice)
	}
	leave(t, p, 4, true)
	leave(t, p, 4, false)
	is(t, p, []api.Lane{
		{Values: numbers(1, 1), Waiters: []api.Waiter{who(5, 50)}}, some(),
		{Values: numbers(2, 1), Waiters: []api.Waiter{who(6, 60)}}, some(3),
	}, 0)
	wait(t, p, 3, 4, 9, api.OK)

	p = laid(t, 1, list, 0)
	letting(t, p, 1, 0, who(4, 40))
	wait(t, p, 3, 4, 9, api.ErrTwice)
	end(t, p, who(5, 50), who(6, 60), who(4, 41))
	wait(t, p, 3, 4, 9, api.OK)
}

func TestEnd(t *testing.T) {
	for lanes := 1; lanes <= 9; lanes++ {
		for cursor := range lanes {
			for which := range 1 << lanes {
				var want []api.Waiter
				list, after := crowds(lanes, 1, 0), crowds(lanes, 1, 0)
				for lane := range lanes {
					if which>>lane&1 == 1 {
						list[lane] = crowd(lane, 1, 1+lane%3)
						want = append(want, list[lane].Waiters...)
					}
				}
				p := laid(t, 1, list, cursor)
				end(t, p, want...)
				is(t, p, after, cursor)
				end(t, p)
				is(t, p, after, cursor)
			}
		}
		end(t, made(t, lanes, 1))
	}
}

func TestBehindEnd(t *testing.T) {
	p := laid(t, 1, crowds(3, 1, 2), 2)
	end(t, p, slices.Concat(crowd(0, 1, 2).Waiters, crowd(1, 1, 2).Waiters, crowd(2, 1, 2).Waiters)...)
	for lane := range 3 {
		put(t, p, lane, 0, api.ErrFull)
		for _, w := range crowd(lane, 1, 2).Waiters {
			leave(t, p, w.Proc, false)
			wait(t, p, 2-lane, w.Proc, w.Value, api.OK)
		}
	}
	letting(t, p, 2000, 2, crowd(0, 1, 2).Waiters[0])
}

func TestSome(t *testing.T) {
	for lanes := 1; lanes <= 9; lanes++ {
		for lane := range lanes {
			for cursor := range lanes {
				p := laid(t, 1, make([]api.Lane, lanes), cursor)
				if p.Some() {
					t.Errorf("%d lanes, the cursor %d: Some of nothing", lanes, cursor)
				}
				p.Drop(lane)
				if p.Some() {
					t.Errorf("%d lanes, the cursor %d: Some of what was dropped", lanes, cursor)
				}
				put(t, p, lane, 0, api.OK)
				for range 2 {
					if !p.Some() {
						t.Errorf("%d lanes, the cursor %d: nothing of %d", lanes, cursor, lane)
					}
				}
				alone(t, p, 0, lane)
				if p.Some() {
					t.Errorf("%d lanes, the cursor %d: Some of what was taken", lanes, cursor)
				}
			}
		}
	}
}

// P10.5

// chance makes numbers that look like chance, the same ones each time.
type chance uint64

func (c *chance) next(n int) int {
	*c = *c*6364136223846793005 + 1442695040888963407
	return int(uint64(*c>>33) % uint64(n))
}

// posts is all that can be asked of a post.
type posts interface {
	Put(lane int, v int64) api.Errno
	Drop(lane int)
	Take() (int64, int, api.Waiter, bool, api.Errno)
	Wait(lane, proc int, v int64) api.Errno
	Leave(proc int) bool
	End() []api.Waiter
	Some() bool
	State() ([]api.Lane, int)
}

// plain is the lanes as the chapters tell them: each call makes its lists anew.
type plain struct {
	room   int
	lanes  []api.Lane
	cursor int
}

// own is the same with a list of lanes of its own.
func (p plain) own() *plain {
	p.lanes = slices.Clone(p.lanes)
	return &p
}

func (p *plain) none(lane int) bool { return lane < 0 || lane > len(p.lanes)-1 }

func (p *plain) Put(lane int, v int64) api.Errno {
	if p.none(lane) {
		return api.ErrRange
	}
	if len(p.lanes[lane].Values) == p.room {
		return api.ErrFull
	}
	p.lanes[lane].Values = slices.Concat(p.lanes[lane].Values, []int64{v})
	return api.OK
}

func (p *plain) Drop(lane int) {
	if !p.none(lane) && p.lanes[lane].Dropped < 65535 {
		p.lanes[lane].Dropped++
	}
}

func (p *plain) Take() (int64, int, api.Waiter, bool, api.Errno) {
	var order []int
	for lane := range p.lanes {
		if lane >= p.cursor {
			order = append(order, lane)
		}
	}
	for lane := range p.cursor {
		order = append(order, lane)
	}
	for _, lane := range order {
		s := &p.lanes[lane]
		if len(s.Values) == 0 {
			continue
		}
		p.cursor = lane + 1
		if p.cursor == len(p.lanes) {
			p.cursor = 0
		}
		if s.Taken < 65535 {
			s.Taken++
		}
		first := s.Values[0]
		if len(s.Waiters) == 0 {
			s.Values = slices.Concat(s.Values[1:])
			return first, lane, api.Waiter{}, false, api.OK
		}
		in := s.Waiters[0]
		s.Values, s.Waiters = slices.Concat(s.Values[1:], []int64{in.Value}), slices.Concat(s.Waiters[1:])
		return first, lane, in, true, api.OK
	}
	return 0, 0, api.Waiter{}, false, api.ErrEmpty
}

func (p *plain) Wait(lane, proc int, v int64) api.Errno {
	if p.none(lane) {
		return api.ErrRange
	}
	for other, s := range p.lanes {
		for _, w := range s.Waiters {
			if w.Proc == proc && other != lane {
				return api.ErrTwice
			}
		}
	}
	s := &p.lanes[lane]
	if len(s.Values) != p.room {
		return api.ErrState
	}
	for _, w := range s.Waiters {
		if w.Proc == proc {
			return api.ErrTwice
		}
	}
	s.Waiters = slices.Concat(s.Waiters, []api.Waiter{who(proc, v)})
	return api.OK
}

func (p *plain) Leave(proc int) bool {
	waited := false
	for lane, s := range p.lanes {
		var rest []api.Waiter
		for _, w := range s.Waiters {
			if w.Proc == proc {
				waited = true
			} else {
				rest = append(rest, w)
			}
		}
		p.lanes[lane].Waiters = rest
	}
	return waited
}

func (p *plain) End() []api.Waiter {
	var all []api.Waiter
	for lane, s := range p.lanes {
		all = append(all, s.Waiters...)
		p.lanes[lane].Waiters = nil
	}
	return all
}

func (p *plain) Some() bool {
	n := 0
	for _, s := range p.lanes {
		n += len(s.Values)
	}
	return n > 0
}

func (p *plain) State() ([]api.Lane, int) { return slices.Clone(p.lanes), p.cursor }

// answer is what a call answered, and how the post stands behind it.
type answer struct {
	v      int64
	lane   int
	in     api.Waiter
	yes    bool
	e      api.Errno
	out    []api.Waiter
	s      []api.Lane
	cursor int
	some   bool
}

// The calls that change a post: Take, End, Leave of three processes, and of a lane Put, Drop and Wait of these three.
const (
	atLarge = 5
	ofALane = 5
)

// calls are how many there are with so many lanes, one of which is none.
func calls(lanes int) int { return atLarge + ofALane*(lanes+1) }

// call does one of the calls, with a message.
func call(p posts, which int, v int64) answer {
	var a answer
	lane, what := (which-atLarge)/ofALane, (which-atLarge)%ofALane
	switch {
	case which == 0:
		a.v, a.lane, a.in, a.yes, a.e = p.Take()
	case which == 1:
		a.out = p.End()
	case which < atLarge:
		a.yes = p.Leave(which - 2)
	case what == 0:
		a.e = p.Put(lane, v)
	case what == 1:
		p.Drop(lane)
	default:
		a.e = p.Wait(lane, what-2, v)
	}
	a.s, a.cursor = p.State()
	a.some = p.Some()
	return a
}

// alike tells whether two answers are the same.
func alike(a, b answer) bool {
	return a.v == b.v && a.lane == b.lane && a.in == b.in && a.yes == b.yes && a.e == b.e && a.cursor == b.cursor && a.some == b.some &&
		slices.Equal(a.out, b.out) && slices.EqualFunc(a.s, b.s, same)
}

// starts are some posts, whose lanes are empty, full, and in which some wait.
func starts() []plain {
	one := api.Lane{Values: numbers(70, 1), Waiters: []api.Waiter{who(2, 80), who(0, 81)}, Dropped: 65534}
	two := api.Lane{Values: numbers(60, 1), Waiters: []api.Waiter{who(1, 82), who(9, 83)}, Taken: 65534}
	return []plain{
		{1, make([]api.Lane, 1), 0},
		{1, make([]api.Lane, 2), 1},
		{2, make([]api.Lane, 2), 0},
		{1, []api.Lane{one}, 0},
		{1, []api.Lane{one, {}}, 1},
		{1, []api.Lane{two, one}, 1},
		{2, []api.Lane{some(1, 2), some(3)}, 0},
		{1, []api.Lane{some(1), {}, two}, 2},
		{1, []api.Lane{one, some(1), one}, 1}, // both processes wait in two lanes
	}
}

func TestEveryRowOfCalls(t *testing.T) {
	const long = 3
	for _, start := range starts() {
		all := calls(len(start.lanes))
		for row := range all * all * all {
			p, twin := laid(t, start.room, start.lanes, start.cursor), start.own()
			for i, rest := 0, row; i < long; i, rest = i+1, rest/all {
				got, want := call(p, rest%all, int64(i)), call(twin, rest%all, int64(i))
				if !alike(got, want) {
					t.Fatalf("%v, the row %d of %d calls, the call %d: %v, not %v", start, row, all, i, got, want)
				}
			}
		}
	}
}

func TestLongRowsOfCalls(t *testing.T) {
	c := chance(9)
	for _, lanes := range []int{1, 2, 3, 8, 9} {
		for _, room := range []int{1, 2, 5, 64} {
			p, twin := made(t, lanes, room), &plain{room: room, lanes: make([]api.Lane, lanes)}
			for i := range 6000 {
				which := c.next(calls(lanes))
				// More messages come than go at times, so that the lanes are full and empty again.
				if c.next(2) == 0 {
					which = i / 1500 % 2 * (atLarge + ofALane*c.next(lanes))
				}
				got, want := call(p, which, int64(i)), call(twin, which, int64(i))
				if !alike(got, want) {
					t.Fatalf("%d lanes, room %d, step %d, call %d: %v, not %v", lanes, room, i, which, got, want)
				}
			}
		}
	}
}

func TestOfEachLaneMessagesAreTakenInTheirOrder(t *testing.T) {
	c := chance(5)
	for _, lanes := range []int{1, 2, 5, 9} {
		p := made(t, lanes, 3)
		went, took := make([][]int64, lanes), make([][]int64, lanes)
		for i := range 20000 {
			v, lane := int64(i), c.next(lanes)
			switch c.next(4) {
			case 0, 1:
				if p.Put(lane, v) == api.OK {
					went[lane] = append(went[lane], v)
				}
			case 2:
				p.Wait(lane, c.next(20), v)
			default:
				v, of, in, let, e := p.Take()
				if e != api.OK {
					continue
				}
				took[of] = append(took[of], v)
				if let {
					went[of] = append(went[of], in.Value)
				}
			}
		}
		for lane := range lanes {
			if n := len(took[lane]); n < 100 || n > len(went[lane]) || !slices.Equal(took[lane], went[lane][:n]) {
				t.Errorf("%d lanes: of %d %d were taken, not in their order", lanes, lane, n)
			}
		}
	}
}

// untilTaken counts the takes up to the message at the place k of a lane; ahead of each of them something may happen.
func untilTaken(t *testing.T, p *Post, lane, k int, ahead func()) int {
	t.Helper()
	for n := 1; n < 10000; n++ {
		ahead()
		_, of, _, _, e := p.Take()
		if e != api.OK {
			t.Fatalf("Take: %d, though the lane %d has a message", e, lane)
		}
		if of == lane {
			k--
		}
		if k < 0 {
			return n
		}
	}
	t.Fatalf("the lane %d is not looked at", lane)
	return 0
}

func TestTheMessageAtAPlaceIsAmongTheNext(t *testing.T) {
	const room = 4
	for n := 1; n <= 9; n++ {
		for lane := range n {
			for cursor := range n {
				for k := range room {
					// All others are full and stay so: nobody could be held up longer.
					p := laid(t, room, crowds(n, room, 0), cursor)
					fill := func() {
						for other := range n {
							for p.Put(other, 1) == api.OK {
							}
						}
					}
					if got, most := untilTaken(t, p, lane, k, fill), (k+1)*n; got > most || cursor == (lane+1)%n && got != most {
						t.Errorf("%d lanes from %d on: the message at %d of %d is taken as the %d, of at most %d", n, cursor, k, lane, got, most)
					}
				}
			}
		}
	}
}

func TestTheMessageAtAPlaceIsAmongTheNextWhateverComes(t *testing.T) {
	c := chance(11)
	for _, room := range []int{1, 3, 64} {
		for range 300 {
			n := 1 + c.next(9)
			list := make([]api.Lane, n)
			for i := range list {
				list[i] = some(numbers(0, c.next(room+1))...)
			}
			lane := c.next(n)
			list[lane] = some(numbers(0, 1+c.next(room))...)
			k := c.next(len(list[lane].Values))
			p := laid(t, room, list, c.next(n))
			chaos := func() {
				for range c.next(9) {
					// All but Take: the next ones that are taken are counted.
					call(p, 1+c.next(calls(n)-1), 7)
				}
			}
			if got, most := untilTaken(t, p, lane, k, chaos), (k+1)*n; got > most {
				t.Fatalf("%v: the message at %d of %d is taken as the %d, of at most %d", list, k, lane, got, most)
			}
		}
	}
}

func TestAtMostOneOfEachOtherLaneIsTakenAhead(t *testing.T) {
	c := chance(13)
	for n := 2; n <= 9; n++ {
		p := made(t, n, 3)
		ahead := make([][]int, n) // how many of each other lane were taken, while this one had a message
		for i := range ahead {
			ahead[i] = make([]int, n)
		}
		taken := 0
		for i := range 5000 {
			call(p, 1+c.next(calls(n)-1), int64(i))
			if c.next(3) > 0 {
				continue
			}
			before, _ := p.State()
			_, of, _, _, e := p.Take()
			if e != api.OK {
				continue
			}
			taken++
			for lane := range n {
				ahead[lane][of]++
				if lane == of || len(before[lane].Values) == 0 {
					clear(ahead[lane])
				}
				if most := slices.Max(ahead[lane]); most > 1 {
					t.Fatalf("%d lanes, step %d: while %d has a message %d of one other are taken: %v", n, i, lane, most, ahead[lane])
				}
			}
		}
		if taken < 300 {
			t.Errorf("%d lanes: %d that were taken are too few to tell", n, taken)
		}
	}
}

func TestLayOfStateIsTheSame(t *testing.T) {
	c := chance(3)
	for _, n := range []int{1, 2, 3, 9} {
		for _, room := range []int{1, 2, 64} {
			p := laid(t, room, make([]api.Lane, n), n-1)
			for i := range 400 {
				for lane := range n {
					for i%7 == 0 && p.Put(lane, int64(i)) == api.OK {
					}
				}
				call(p, c.next(calls(n)), int64(i))
				l, cursor := p.State()
				again, on := laid(t, room, l, cursor), laid(t, room, l, cursor)
				is(t, again, l, cursor)
				for k := range 6 {
					which := c.next(calls(n))
					got, want := call(again, which, int64(k)), call(on, which, int64(k))
					again = laid(t, room, got.s, got.cursor)
					if !alike(got, want) {
						t.Fatalf("%d lanes, room %d, step %d, call %d: %v, not %v", n, room, i, which, got, want)
					}
				}
			}
		}
	}
}

// P10.6

// spare is a list with room behind it, in which something stands.
func spare[T any](list, behind []T) []T {
	return slices.Concat(list, behind)[:len(list)]
}

// whole is a list with all the room that is behind it.
func whole[T any](list []T) []T { return list[:cap(list)] }

// scribble writes over all that a list has, and the room behind it.
func scribble[T any](list []T, with T) {
	for i := range whole(list) {
		whole(list)[i] = with
	}
}

// wide are lanes of which each list, and the list of them, has room behind it, in which something stands.
func wide(l []api.Lane) []api.Lane {
	list := spare(l, crowds(5, 3, 3))
	for i, s := range list {
		list[i].Values = spare(s.Values, numbers(90, 70))
		list[i].Waiters = spare(s.Waiters, crowd(8, 0, 30).Waiters)
	}
	return list
}

// deep copies lanes with all their lists, and the room behind them.
func deep(l []api.Lane) []api.Lane {
	list := slices.Clone(whole(l))
	for i, s := range list {
		list[i].Values = slices.Clone(whole(s.Values))
		list[i].Waiters = slices.Clone(whole(s.Waiters))
	}
	return list
}

// scribbleAll writes over the lanes, all their lists and the room behind these.
func scribbleAll(l []api.Lane) {
	for _, s := range whole(l) {
		scribble(s.Values, -1)
		scribble(s.Waiters, who(-1, -1))
	}
	scribble(l, api.Lane{Taken: -1})
}

// work does much with a post: each of its lists grows and shrinks.
func work(p *Post, lanes int) {
	for i := range 30 {
		for which := range calls(lanes) {
			call(p, 0, 0)
			call(p, which, int64(500+i))
			call(p, calls(lanes)-1-which, int64(600+i))
			call(p, atLarge+ofALane*(i%lanes), int64(700+i))
		}
	}
}

func TestLayNeitherChangesNorKeepsWhatIsHandedIn(t *testing.T) {
	for _, room := range []int{1, 2, 64} {
		for lanes := 1; lanes <= 9; lanes++ {
			want := crowds(lanes, room, 3)
			list := wide(crowds(lanes, room, 3))
			was := deep(list)
			p, busy := laid(t, room, list, lanes-1), laid(t, room, list, 0)
			work(busy, lanes)
			if !slices.EqualFunc(deep(list), was, same) {
				t.Fatalf("room %d: Lay, and what came behind it, made %v of what was handed in", room, list)
			}
			scribbleAll(list)
			is(t, p, want, lanes-1)
			last := want[lanes-1]
			letting(t, p, last.Values[0], lanes-1, last.Waiters[0])
		}
	}
}

func TestPutNeverGrowsIntoWhatIsHandedIn(t *testing.T) {
	back := numbers(1, 8)
	p := laid(t, 4, []api.Lane{some(back[:2]...), {Values: back[2:4]}}, 0)
	for lane := range 2 {
		put(t, p, lane, 70, api.OK)
		put(t, p, lane, 71, api.OK)
	}
	if !slices.Equal(back, numbers(1, 8)) {
		t.Errorf("Put wrote into what was handed in: %v", back)
	}
}

func TestLayOfWhatMayNotBeChangesNothing(t *testing.T) {
	for _, room := range []int{0, 1, 2, 65} {
		for _, cursor := range []int{-1, 0, 3} {
			list := crowds(3, 1, 2)
			list[2].Values = numbers(1, 3)
			list = wide(list)
			was := deep(list)
			if p, e := Lay(room, list, cursor); p != nil || e == api.OK {
				t.Errorf("Lay(%d, %v, %d): %v, %d", room, list, cursor, p, e)
			}
			if !slices.EqualFunc(deep(list), was, same) {
				t.Errorf("Lay(%d, .., %d) made %v of what was handed in", room, cursor, list)
			}
		}
	}
}

func TestLanesLaidOfOneListAreTheirOwn(t *testing.T) {
	s := crowd(1, 2, 1)
	p := laid(t, 2, []api.Lane{s, s, s}, 0)
	letting(t, p, 1000, 0, s.Waiters[0])
	is(t, p, []api.Lane{{Values: []int64{1001, 1500}, Taken: 2, Dropped: 2}, s, s}, 1)
	letting(t, p, 1000, 1, s.Waiters[0])
	p.Drop(2)
	end(t, p, s.Waiters...)
	rest := api.Lane{Values: []int64{1001, 1500}, Taken: 2, Dropped: 2}
	is(t, p, []api.Lane{rest, rest, {Values: s.Values, Taken: 1, Dropped: 3}}, 2)
}

func TestPostsLaidAlikeAreTheirOwn(t *testing.T) {
	list := crowds(4, 2, 3)
	a, b := laid(t, 2, list, 1), laid(t, 2, list, 1)
	work(a, 4)
	is(t, b, crowds(4, 2, 3), 1)
	a, b = made(t, 4, 2), made(t, 4, 2)
	work(a, 4)
	is(t, b, make([]api.Lane, 4), 0)
}

func TestEmptyLanesAreTheirOwn(t *testing.T) {
	list := make([]api.Lane, 9)
	p := made(t, 9, 3)
	for i := range 3 {
		for lane := range 9 {
			put(t, p, lane, int64(10*lane+i), api.OK)
			list[lane].Values = append(list[lane].Values, int64(10*lane+i))
			is(t, p, list, 0)
		}
	}
	for lane := range 9 {
		wait(t, p, lane, lane, int64(lane), api.OK)
		p.Drop(lane)
		list[lane].Waiters, list[lane].Dropped = []api.Waiter{who(lane, int64(lane))}, 1
		is(t, p, list, 0)
	}
}

func TestStateSharesNoMemory(t *testing.T) {
	c := chance(7)
	for _, start := range append(starts(), plain{64, crowds(9, 64, 20), 8}) {
		p, n := laid(t, start.room, start.lanes, start.cursor), len(start.lanes)
		for i := range 60 {
			call(p, atLarge+ofALane*c.next(n), int64(i))
			call(p, c.next(calls(n)), int64(i))
			a, cursor := p.State()
			b, _ := p.State()
			want := deep(a)
			scribbleAll(a)
			if !slices.EqualFunc(b, want, same) {
				t.Fatalf("%v, step %d: two answers share memory: %v", start, i, b)
			}
			is(t, p, want, cursor)
			work(p, n)
			if !slices.EqualFunc(b, want, same) {
				t.Fatalf("%v, step %d: what came later made %v of an answer", start, i, b)
			}
			p = laid(t, start.room, want, cursor)
		}
	}
}

func TestNoTwoListsOfAnAnswerShareMemory(t *testing.T) {
	for _, room := range []int{1, 2, 64} {
		p := laid(t, room, crowds(9, room, 5), 4)
		work(p, 9)
		end(t, p, waiters(p)...)
		for lane := range 9 {
			for p.Put(lane, int64(100+lane)) == api.OK {
			}
			for i := range lane + 1 {
				wait(t, p, lane, 100*lane+i, int64(i), api.OK)
			}
		}
		for lane := range 9 {
			got, _ := p.State()
			want := deep(got)
			// Written over in full and grown, one lane's lists leave all others as they are.
			scribble(got[lane].Values, -1)
			_ = append(got[lane].Values, -2, -3)
			if !slices.Equal(got[lane].Waiters, want[lane].Waiters) {
				t.Fatalf("room %d: the messages and the waiters of %d share memory", room, lane)
			}
			scribble(got[lane].Waiters, who(-1, -1))
			_ = append(got[lane].Waiters, who(-2, -2))
			got[lane] = want[lane]
			if !slices.EqualFunc(got, want, same) {
				t.Fatalf("room %d: the lists of %d are others' too: %v", room, lane, got)
			}
		}
	}
}

// waiters are all who wait, as State tells them.
func waiters(p *Post) []api.Waiter {
	var all []api.Waiter
	l, _ := p.State()
	for _, s := range l {
		all = append(all, s.Waiters...)
	}
	return all
}

func TestEndSharesNoMemory(t *testing.T) {
	for lanes := 1; lanes <= 9; lanes++ {
		for many := range 6 {
			p := laid(t, 1, crowds(lanes, 1, many), 0)
			before, _ := p.State()
			was, want := deep(before), waiters(p)
			out := p.End()
			list := crowds(lanes, 1, 0)
			for lane := range lanes {
				wait(t, p, lane, -lane, 9, api.OK)
				list[lane].Waiters = []api.Waiter{who(-lane, 9)}
			}
			if !slices.Equal(out, want) {
				t.Fatalf("Wait made %v of what End answered, not %v", out, want)
			}
			scribble(out, who(-1, -1))
			// Room behind an answer is its own, too.
			_ = append(out, who(-2, -2))
			is(t, p, list, 0)
			if !slices.EqualFunc(before, was, same) {
				t.Errorf("what End answered is State's: %v", before)
			}
		}
	}
}

// R4
func TestAskingChangesNothing(t *testing.T) {
	for _, start := range starts() {
		p := laid(t, start.room, start.lanes, start.cursor)
		for range 3 {
			is(t, p, start.lanes, start.cursor)
		}
	}
}

// The chapter's examples

func TestExamples(t *testing.T) {
	p := made(t, 3, 2)
	put(t, p, 0, 5, api.OK)
	put(t, p, 0, 6, api.OK)
	put(t, p, 2, 7, api.OK)
	put(t, p, 3, 1, api.ErrRange)
	alone(t, p, 5, 0)
	alone(t, p, 7, 2)
	alone(t, p, 6, 0)
	nothing(t, p)
	put(t, p, 0, 1, api.OK)
	put(t, p, 1, 2, api.OK)
	alone(t, p, 2, 1)
	put(t, p, 0, 3, api.OK)
	wait(t, p, 0, 9, 4, api.OK)
	wait(t, p, 1, 9, 4, api.ErrTwice)
	wait(t, p, 2, 8, 4, api.ErrState)
	letting(t, p, 1, 0, who(9, 4))
	leave(t, p, 9, false)
	if !p.Some() {
		t.Error("Some")
	}
	end(t, p)
	is(t, p, []api.Lane{{Values: []int64{3, 4}, Taken: 3}, {Taken: 1}, {Taken: 1}}, 1)
}

func TestExamplesOfWhatMayNotBe(t *testing.T) {
	for _, x := range [][2]int{{10, 1}, {1, 65}} {
		if p, e := New(x[0], x[1]); p != nil || e != api.ErrArg {
			t.Errorf("New(%d, %d): %v, %d", x[0], x[1], p, e)
		}
	}
	refused(t, 2, make([]api.Lane, 2), 2, api.ErrRange)
}
