package locks

import (
	"math"
	"slices"
	"testing"

	"firebreak/api"
)

// anybody are numbers that who may be; below are such as nobody's is.
var (
	anybody = []int{0, 1, 2, 31, 32, 65535, 1<<31 - 1, 1 << 31, 1 << 32, 1<<32 + 1, math.MaxInt - 1, math.MaxInt}
	below   = []int{-1, -2, -3, -8, -1 << 31, -1 << 32, math.MinInt + 1, math.MinInt}
)

// stand is how locks stand, as Lay takes it and State tells it.
type stand struct {
	owners []int
	queues [][]int
}

// row is who waits for a lock.
func row(who ...int) []int { return who }

// stands puts locks together of their owners and their queues.
func stands(owners []int, queues ...[]int) stand { return stand{owners, queues} }

// free are so many locks that nobody holds.
func free(n int) stand {
	s := stand{}
	for range n {
		s.owners, s.queues = append(s.owners, -1), append(s.queues, nil)
	}
	return s
}

// line are so many who wait, from one on.
func line(first, n int) []int {
	list := make([]int, n)
	for i := range list {
		list[i] = first + i
	}
	return list
}

// same tells whether locks stand alike.
func same(a, b stand) bool {
	return slices.Equal(a.owners, b.owners) && slices.EqualFunc(a.queues, b.queues, slices.Equal[[]int])
}

// clone is the same in other memory.
func (s stand) clone() stand {
	out := stand{owners: slices.Clone(s.owners)}
	for _, q := range s.queues {
		out.queues = append(out.queues, slices.Clone(q))
	}
	return out
}

func made(t *testing.T, n int) *Locks {
	t.Helper()
	l, e := New(n)
	if l == nil || e != api.OK {
		t.Fatalf("New(%d): %v, %d", n, l, e)
	}
	return l
}

func laid(t *testing.T, s stand) *Locks {
	t.Helper()
	l, e := Lay(s.owners, s.queues)
	if l == nil || e != api.OK {
		t.Fatalf("Lay(%v): %v, %d", s, l, e)
	}
	return l
}

// refused asks that locks may not stand so.
func refused(t *testing.T, s stand, want api.Errno) {
	t.Helper()
	if l, e := Lay(s.owners, s.queues); l != nil || e != want {
		t.Errorf("Lay(%v): %v, %d, not %d", s, l, e, want)
	}
}

// told is what State tells.
func told(l rows) stand {
	owners, queues := l.State()
	return stand{owners, queues}
}

// is asks how locks stand, and all who stand there, and some others, what they hold and wait for.
func is(t *testing.T, l *Locks, want stand) {
	t.Helper()
	if got := told(l); !same(got, want) {
		t.Errorf("State: %v, not %v", got, want)
	}
	for _, p := range slices.Concat(anybody, below, want.owners, slices.Concat(want.queues...)) {
		twin := plain{want}
		holds(t, l, p, twin.Holds(p)...)
		lock, is := twin.Waits(p)
		waits(t, l, p, lock, is)
	}
}

func take(t *testing.T, l *Locks, lock, p int, want bool, e api.Errno) {
	t.Helper()
	if got, f := l.Take(lock, p); got != want || f != e {
		t.Errorf("Take(%d, %d): %v, %d, not %v, %d", lock, p, got, f, want, e)
	}
}

func give(t *testing.T, l *Locks, lock, p, want int, e api.Errno) {
	t.Helper()
	if got, f := l.Give(lock, p); got != want || f != e {
		t.Errorf("Give(%d, %d): %d, %d, not %d, %d", lock, p, got, f, want, e)
	}
}

func end(t *testing.T, l *Locks, p int, want ...Given) {
	t.Helper()
	if got := l.End(p); !slices.Equal(got, want) {
		t.Errorf("End(%d): %v, not %v", p, got, want)
	}
}

func holds(t *testing.T, l *Locks, p int, want ...int) {
	t.Helper()
	if got := l.Holds(p); !slices.Equal(got, want) {
		t.Errorf("Holds(%d): %v, not %v", p, got, want)
	}
}

func waits(t *testing.T, l *Locks, p, lock int, want bool) {
	t.Helper()
	if got, is := l.Waits(p); got != lock || is != want {
		t.Errorf("Waits(%d): %d, %v, not %d, %v", p, got, is, lock, want)
	}
}

func TestErrorsAndLimitsThatComeHere(t *testing.T) {
	if api.OK != 0 || api.ErrArg != 1 || api.ErrRange != 2 || api.ErrMany != 3 || api.ErrForm != 4 || api.ErrState != 20 {
		t.Error("the numbers of the errors")
	}
	if api.MaxLocks != 8 {
		t.Error("the limit of locks")
	}
}

// P12.1

func TestNew(t *testing.T) {
	for n := range 9 {
		l := made(t, n)
		is(t, l, free(n))
		for lock := range n {
			give(t, l, lock, 3, -1, api.OK)
			take(t, l, lock, 3, true, api.OK)
		}
		for _, lock := range []int{n, n + 1, -1} {
			take(t, l, lock, 3, false, api.ErrRange)
		}
		holds(t, l, 3, line(0, n)...)
		// Others are their own.
		is(t, made(t, n), free(n))
	}
	for _, n := range []int{9, 10, 64, 1 << 31, 1 << 32, 1<<32 + 1, math.MaxInt, -1, -2, -8, math.MinInt} {
		if l, e := New(n); l != nil || e != api.ErrArg {
			t.Errorf("New(%d): %v, %d", n, l, e)
		}
	}
}

// allowed are locks that may stand so.
func allowed() []stand {
	return []stand{
		{},
		free(1),
		free(8),
		stands(row(5), nil),
		stands(row(0), row(1)),
		stands(row(1), row(0)),
		stands(row(5, -1), row(6), nil),
		stands(row(-1, 5), nil, row(6)),
		stands(row(5, 5), row(6, 7), row(8)),
		stands(row(0, 0, 0), nil, row(2, 1), row(3)),
		stands(row(5, 6), nil, row(5)),
		stands(row(5, 6), row(6), row(5)), // a ring may be laid
		stands(row(1, 2, 3), row(3, 9), row(1, 8), row(2, 7)),
		stands(row(math.MaxInt, 0), row(0, 1<<32, 1), row(math.MaxInt, 1<<32+1)),
		stands(row(7, -1, 7, -1, 7, -1, 7, 1), row(2), nil, row(3), nil, row(4), nil, row(5), row(6, 7)),
		stands(row(100), line(0, 100)),
	}
}

func TestLay(t *testing.T) {
	for _, s := range allowed() {
		is(t, laid(t, s), s)
	}
	// A list without elements is nobody, nil or not.
	is(t, laid(t, stands(row(-1, 4), []int{}, make([]int, 0, 4))), stands(row(-1, 4), nil, nil))
	is(t, laid(t, stand{[]int{}, [][]int{}}), free(0))
	is(t, laid(t, stand{nil, [][]int{}}), free(0))
}

func TestLayOfMore(t *testing.T) {
	for n := range 12 {
		for m := range 12 {
			for _, s := range []stand{{free(n).owners, free(m).queues}, {line(1, n), free(m).queues}, {line(-9, n), slices.Repeat([][]int{row(-1, 3, 3)}, m)}} {
				if n > 8 || m > 8 {
					refused(t, s, api.ErrMany)
				} else if n != m {
					refused(t, s, api.ErrForm)
				}
			}
			if n == m && n <= 8 {
				is(t, laid(t, stand{line(1, n), free(n).queues}), stand{line(1, n), free(n).queues})
			}
		}
	}
}

func TestLayIsRefused(t *testing.T) {
	for _, s := range []stand{
		// There are not as many queues as owners.
		stands(row(5)),
		stands(nil, nil),
		stands(row(5, 6), nil),
		stands(row(5), nil, nil),
		// Nobody holds it.
		stands(row(-1), row(6)),
		stands(row(-1), row(0)),
		stands(row(5, -1), nil, row(6)),
		stands(row(5, -1), row(6), row(5)),
		// They hold it.
		stands(row(5), row(5)),
		stands(row(0), row(0)),
		stands(row(5), row(6, 7, 5)),
		stands(row(5, 6), row(7), row(8, 6)),
		// Twice for one lock.
		stands(row(5), row(6, 6)),
		stands(row(5), row(6, 7, 6)),
		stands(row(5), row(7, 8, 6, 6)),
		stands(row(5), row(0, 0)),
		// Twice for two.
		stands(row(5, 6), row(7), row(7)),
		stands(row(5, 6), row(7, 8), row(9, 7)),
		stands(row(5, 6), row(0), row(0)),
		stands(row(5, -1, 5), row(7), nil, row(7)),
		// Several together.
		stands(row(-2), row(-1)),
		stands(row(-1), row(-1)),
		stands(row(5, -2), row(5, 5, -1), row(5)),
		stands(row(-2, -2), row(-2, -2), row(-2), nil),
	} {
		refused(t, s, api.ErrForm)
	}
	for _, low := range below {
		for at := range 3 {
			owners := row(5, 6, 7)
			owners[at] = low
			if low < -1 {
				refused(t, stands(owners, nil, nil, nil), api.ErrForm)
			}
			for _, queue := range [][]int{row(low), row(low, 9), row(9, low), row(9, low, 8)} {
				s := stands(row(5, 6, 7), nil, nil, nil)
				s.queues[at] = queue
				refused(t, s, api.ErrForm)
			}
		}
	}
}

// wrong tells what Lay answers, one reason behind the other, as the chapter has them.
func wrong(s stand) api.Errno {
	if len(s.owners) > 8 || len(s.queues) > 8 {
		return api.ErrMany
	}
	if len(s.owners) != len(s.queues) {
		return api.ErrForm
	}
	for i, owner := range s.owners {
		if owner < -1 || owner == -1 && len(s.queues[i]) > 0 || slices.Contains(s.queues[i], owner) {
			return api.ErrForm
		}
	}
	all := slices.Sorted(slices.Values(slices.Concat(s.queues...)))
	if len(all) > 0 && all[0] < 0 || len(slices.Compact(slices.Clone(all))) < len(all) {
		return api.ErrForm
	}
	return api.OK
}

// shortRows are all rows of at most so many numbers from -1 on to a last one.
func shortRows(long, last int) [][]int {
	out := [][]int{nil}
	for from := 0; long > 0; long-- {
		to := len(out)
		for _, r := range out[from:to] {
			for p := -1; p <= last; p++ {
				out = append(out, append(slices.Clone(r), p))
			}
		}
		from = to
	}
	return out
}

func TestLayOfAllThatIsShort(t *testing.T) {
	right := 0
	try := func(s stand) {
		l, e := Lay(s.owners, s.queues)
		if e != wrong(s) || (l == nil) != (e != api.OK) {
			t.Fatalf("Lay(%v): %v, %d, not %d", s, l, e, wrong(s))
		}
		if l != nil {
			right++
			if !same(told(l), s) {
				t.Fatalf("Lay(%v) stands as %v", s, told(l))
			}
		}
	}
	for a := -2; a <= 2; a++ {
		for _, q := range shortRows(4, 2) {
			try(stands(row(a), q))
			try(stands(row(a, a), q))
			try(stands(nil, q))
		}
		for b := -2; b <= 2; b++ {
			for _, q := range shortRows(2, 2) {
				for _, r := range shortRows(2, 2) {
					try(stands(row(a, b), q, r))
				}
			}
			for c := -2; c <= 1; c++ {
				for _, q := range shortRows(1, 3) {
					for _, r := range shortRows(1, 3) {
						for _, s := range shortRows(1, 3) {
							try(stands(row(a, b, c), q, r, s))
						}
					}
				}
			}
		}
	}
	if right < 500 {
		t.Errorf("%d that may stand so are too few to tell", right)
	}
}

// P12.2

func TestTakeOfALockThatNobodyHolds(t *testing.T) {
	for n := 1; n <= 8; n++ {
		for lock := range n {
			for _, p := range anybody {
				l, want := made(t, n), free(n)
				take(t, l, lock, p, true, api.OK)
				want.owners[lock] = p
				is(t, l, want)
				// Who holds it takes it again, and nothing happens.
				take(t, l, lock, p, true, api.OK)
				is(t, l, want)
				// Once given it is given, however often it was taken.
				give(t, l, lock, p, -1, api.OK)
				is(t, l, free(n))
			}
		}
	}
}

func TestTakeOfALockThatAnotherHolds(t *testing.T) {
	for _, owner := range anybody {
		l := laid(t, stands(row(-1, owner, -1), nil, nil, nil))
		var queue []int
		for _, p := range anybody {
			if p == owner {
				take(t, l, 1, p, true, api.OK)
				continue
			}
			take(t, l, 1, p, false, api.OK)
			queue = append(queue, p)
			is(t, l, stands(row(-1, owner, -1), nil, queue, nil))
		}
	}
}

func TestTakeOfWhoHoldsItWhereOthersWait(t *testing.T) {
	s := stands(row(0), row(3, 1, 2))
	l := laid(t, s)
	take(t, l, 0, 0, true, api.OK)
	is(t, l, s)
}

func TestTakeOfWhoWaits(t *testing.T) {
	s := stands(row(5, 6, -1, 7), row(1, 0, 2), row(5, 3), nil, nil)
	l := laid(t, s)
	for _, p := range []int{0, 1, 2, 3, 5} {
		for lock := range 4 { // this one, another one, a free one, and of 5 the one that it holds
			take(t, l, lock, p, false, api.ErrState)
			is(t, l, s)
		}
	}
	take(t, l, 2, 6, true, api.OK)
	take(t, l, 0, 7, false, api.OK)
	is(t, l, stands(row(5, 6, 6, 7), row(1, 0, 2, 7), row(5, 3), nil, nil))
	take(t, l, 3, 7, false, api.ErrState) // which it holds
}

func TestWhoHadALockMayTakeAgain(t *testing.T) {
	l := laid(t, stands(row(5, 6), row(1, 2), nil))
	give(t, l, 0, 5, 1, api.OK)
	take(t, l, 0, 1, true, api.OK)
	take(t, l, 1, 1, false, api.OK)
	take(t, l, 0, 5, false, api.OK)
	is(t, l, stands(row(1, 6), row(2, 5), row(1)))
}

func TestGive(t *testing.T) {
	for _, p := range anybody {
		l := laid(t, stands(row(p, 7), nil, nil))
		give(t, l, 0, p, -1, api.OK)
		is(t, l, stands(row(-1, 7), nil, nil))
		give(t, l, 0, p, -1, api.OK)
		is(t, l, stands(row(-1, 7), nil, nil))
	}
	for many := 1; many < 9; many++ {
		list := line(0, many)
		slices.Reverse(list)
		l := laid(t, stands(row(7, 50), row(5), list[:0]))
		for _, p := range list {
			if p != 5 && p != 7 {
				take(t, l, 1, p, false, api.OK)
			}
		}
		queue := slices.DeleteFunc(slices.Clone(list), func(p int) bool { return p == 5 || p == 7 })
		owner := 50
		for len(queue) > 0 {
			is(t, l, stands(row(7, owner), row(5), queue))
			give(t, l, 1, owner, queue[0], api.OK)
			owner, queue = queue[0], queue[1:]
		}
		give(t, l, 1, owner, -1, api.OK)
		is(t, l, stands(row(7, -1), row(5), nil))
	}
}

func TestGiveByOneWhoDoesNotHoldIt(t *testing.T) {
	s := stands(row(5, -1, 6), row(0, 7, 1), nil, row(5))
	l := laid(t, s)
	for _, p := range []int{0, 1, 2, 6, 7, 99, math.MaxInt} { // who waits for it, who holds another one, any others
		give(t, l, 0, p, 5, api.OK)
		is(t, l, s)
	}
	for _, p := range anybody {
		give(t, l, 1, p, -1, api.OK)
		is(t, l, s)
	}
	give(t, l, 2, 5, 6, api.OK)
	is(t, l, s)
}

func TestWhoWaitsMayGive(t *testing.T) {
	l := laid(t, stands(row(5, 6), row(7), row(5)))
	give(t, l, 0, 5, 7, api.OK)
	is(t, l, stands(row(7, 6), nil, row(5)))
	give(t, l, 1, 6, 5, api.OK)
	is(t, l, stands(row(7, 5), nil, nil))
}

func TestTakeAndGiveOfWhatIsNot(t *testing.T) {
	for _, s := range allowed() {
		l, n := laid(t, s), len(s.owners)
		noLocks := []int{n, n + 1, 64, 1 << 32, 1<<32 + 1, math.MaxInt, -1, -2, -n - 1, math.MinInt}
		for _, lock := range noLocks {
			// ErrRange is ahead of all that may be wrong with who asks: below 0, and who waits.
			for _, p := range slices.Concat(anybody, below, s.owners, slices.Concat(s.queues...)) {
				take(t, l, lock, p, false, api.ErrRange)
				give(t, l, lock, p, 0, api.ErrRange)
			}
		}
		for lock := range n {
			for _, p := range below {
				take(t, l, lock, p, false, api.ErrArg)
				give(t, l, lock, p, 0, api.ErrArg)
			}
		}
		is(t, l, s)
	}
}

// P12.3

func TestEndOfWhoHoldsSeveralAndWaits(t *testing.T) {
	l := laid(t, stands(row(1, 2, 1, -1, 1, 3), row(4, 5), row(6, 1, 7), nil, nil, row(8), row(9)))
	end(t, l, 1, Given{0, 4}, Given{2, -1}, Given{4, 8})
	is(t, l, stands(row(4, 2, -1, -1, 8, 3), row(5), row(6, 7), nil, nil, nil, row(9)))
	end(t, l, 1)
	is(t, l, stands(row(4, 2, -1, -1, 8, 3), row(5), row(6, 7), nil, nil, nil, row(9)))
	// It may come again.
	take(t, l, 1, 1, false, api.OK)
	is(t, l, stands(row(4, 2, -1, -1, 8, 3), row(5), row(6, 7, 1), nil, nil, nil, row(9)))
}

func TestEndOfWhoHoldsAll(t *testing.T) {
	for n := range 9 {
		l, want := made(t, n), []Given{}
		for lock := n - 1; lock >= 0; lock-- {
			take(t, l, lock, 0, true, api.OK)
			if lock%3 > 0 {
				take(t, l, lock, 10+lock, false, api.OK)
				take(t, l, lock, 20+lock, false, api.OK)
			}
		}
		after := free(n)
		for lock := range n {
			if lock%3 > 0 {
				after.owners[lock], after.queues[lock] = 10+lock, row(20+lock)
			}
			want = append(want, Given{lock, after.owners[lock]})
		}
		end(t, l, 0, want...)
		is(t, l, after)
	}
}

func TestEndOfWhoOnlyWaits(t *testing.T) {
	for many := 1; many < 8; many++ {
		for at := range many { // the first, those in the midst, the last
			queue := line(0, many)
			l := laid(t, stands(row(50, 51), row(60), queue))
			rest := slices.Delete(slices.Clone(queue), at, at+1)
			end(t, l, at)
			is(t, l, stands(row(50, 51), row(60), rest))
			end(t, l, at)
			is(t, l, stands(row(50, 51), row(60), rest))
			take(t, l, 1, 70, false, api.OK)
			take(t, l, 1, at, false, api.OK)
			rest = append(rest, 70, at)
			is(t, l, stands(row(50, 51), row(60), rest))
			owner := 51
			for _, p := range rest {
				give(t, l, 1, owner, p, api.OK)
				owner = p
			}
			give(t, l, 1, owner, -1, api.OK)
			is(t, l, stands(row(50, -1), row(60), nil))
		}
	}
}

func TestEndOfWhoDoesNeither(t *testing.T) {
	for _, s := range allowed() {
		l := laid(t, s)
		for _, p := range slices.Concat(anybody, []int{9999}, below) {
			if !slices.Contains(slices.Concat(s.owners, slices.Concat(s.queues...)), p) || p < 0 {
				end(t, l, p)
				is(t, l, s)
			}
		}
	}
}

func TestNobodyHoldsNothing(t *testing.T) {
	// -1 tells nobody in State, but is nobody's number.
	l := laid(t, stands(row(-1, 5, -1), nil, row(6), nil))
	for _, p := range below {
		holds(t, l, p)
		waits(t, l, p, 0, false)
		end(t, l, p)
	}
	is(t, l, stands(row(-1, 5, -1), nil, row(6), nil))
}

func TestEndHandsToWhoWaitsBehindOneWhoEnded(t *testing.T) {
	l := laid(t, stands(row(1, 2), row(3, 4), row(1)))
	end(t, l, 3)
	end(t, l, 1, Given{0, 4})
	is(t, l, stands(row(4, 2), nil, nil))
	end(t, l, 2, Given{1, -1})
	end(t, l, 4, Given{0, -1})
	is(t, l, free(2))
}

func TestEndInARing(t *testing.T) {
	l := laid(t, stands(row(5, 6), row(6), row(5)))
	end(t, l, 5, Given{0, 6})
	is(t, l, stands(row(6, 6), nil, nil))
}

// P12.4

func TestHoldsAndWaits(t *testing.T) {
	l := laid(t, stands(row(4, 0, 4, -1, 0, 4), row(1), row(4), nil, nil, row(2, 3), row(0)))
	holds(t, l, 4, 0, 2, 5)
	holds(t, l, 0, 1, 4)
	for _, p := range []int{1, 2, 3, 5} {
		holds(t, l, p)
	}
	waits(t, l, 1, 0, true)
	waits(t, l, 4, 1, true)
	waits(t, l, 2, 4, true)
	waits(t, l, 3, 4, true)
	waits(t, l, 0, 5, true)
	waits(t, l, 5, 0, false)
}

// P12.5

// chance makes numbers that look like chance, the same ones each time.
type chance uint64

func (c *chance) next(n int) int {
	*c = *c*6364136223846793005 + 1442695040888963407
	return int(uint64(*c>>33) % uint64(n))
}

// rows is all that can be asked of locks.
type rows interface {
	Take(lock, p int) (bool, api.Errno)
	Give(lock, p int) (int, api.Errno)
	End(p int) []Given
	Holds(p int) []int
	Waits(p int) (int, bool)
	State() ([]int, [][]int)
}

// plain are locks as the chapter tells them: all is looked for in how they stand, and lists are made anew.
type plain struct{ s stand }

func (l *plain) Take(lock, p int) (bool, api.Errno) {
	if lock < 0 || lock >= len(l.s.owners) {
		return false, api.ErrRange
	}
	if p < 0 {
		return false, api.ErrArg
	}
	if slices.Contains(slices.Concat(l.s.queues...), p) {
		return false, api.ErrState
	}
	if l.s.owners[lock] == p || l.s.owners[lock] == -1 {
		l.s.owners[lock] = p
		return true, api.OK
	}
	l.s.queues[lock] = slices.Concat(l.s.queues[lock], row(p))
	return false, api.OK
}

func (l *plain) Give(lock, p int) (int, api.Errno) {
	if lock < 0 || lock >= len(l.s.owners) {
		return 0, api.ErrRange
	}
	if p < 0 {
		return 0, api.ErrArg
	}
	if l.s.owners[lock] == p {
		stood := slices.Concat(l.s.queues[lock], row(-1))
		l.s.owners[lock] = stood[0]
		l.s.queues[lock] = slices.Concat(stood[min(1, len(stood)-1) : len(stood)-1])
	}
	return l.s.owners[lock], api.OK
}

func (l *plain) End(p int) []Given {
	for i, q := range l.s.queues {
		l.s.queues[i] = slices.DeleteFunc(slices.Clone(q), func(w int) bool { return w == p })
	}
	var out []Given
	for lock, owner := range l.s.owners {
		if p >= 0 && owner == p {
			to, _ := l.Give(lock, p)
			out = append(out, Given{lock, to})
		}
	}
	return out
}

func (l *plain) Holds(p int) []int {
	var out []int
	for lock, owner := range l.s.owners {
		if p >= 0 && owner == p {
			out = append(out, lock)
		}
	}
	return out
}

func (l *plain) Waits(p int) (int, bool) {
	for lock, q := range l.s.queues {
		if slices.Contains(q, p) {
			return lock, true
		}
	}
	return 0, false
}

func (l *plain) State() ([]int, [][]int) { return l.s.owners, l.s.queues }

// answer is what a call answered, and how the locks stand behind it.
type answer struct {
	yes  bool
	to   int
	e    api.Errno
	out  []Given
	s    stand
	held []int
	lock int
	wait bool
}

// The calls that change locks: Take, Give, End.
const calls = 3

// call does one of the calls, and asks what p holds and waits for behind it.
func call(l rows, which, lock, p int) answer {
	a := answer{}
	switch which {
	case 0:
		a.yes, a.e = l.Take(lock, p)
	case 1:
		a.to, a.e = l.Give(lock, p)
	default:
		a.out = l.End(p)
	}
	a.s, a.held = told(l).clone(), l.Holds(p)
	a.lock, a.wait = l.Waits(p)
	return a
}

// alike tells whether two answers are the same.
func alike(a, b answer) bool {
	return a.yes == b.yes && a.to == b.to && a.e == b.e && a.lock == b.lock && a.wait == b.wait && slices.Equal(a.out, b.out) && slices.Equal(a.held, b.held) && same(a.s, b.s)
}

func TestEveryRowOfCalls(t *testing.T) {
	const locks, procs, long = 2, 3, 4
	const kinds = 2*locks*procs + procs // Take and Give of each lock by each, and the End of each
	for _, start := range []stand{free(2), stands(row(0, 1), row(2), row(0)), stands(row(2, 2), row(1, 0), nil), stands(row(9, 0), row(2, 0, 1), nil)} {
		for number := range int(math.Pow(kinds, long)) {
			l, twin := laid(t, start), &plain{start.clone()}
			for i, rest := 0, number; i < long; i, rest = i+1, rest/kinds {
				which, lock, p := rest%kinds/(locks*procs), rest%kinds/procs%locks, rest%procs
				got, want := call(l, which, lock, p), call(twin, which, lock, p)
				if !alike(got, want) {
					t.Fatalf("%v, the row %d, the call %d of %d to %d by %d: %v, not %v", start, number, i, which, lock, p, got, want)
				}
			}
		}
	}
}

func TestLongRowsOfCalls(t *testing.T) {
	c := chance(12)
	for n := range 9 {
		for _, procs := range []int{1, 2, 3, 9, 32, 100} {
			l, twin := made(t, n), &plain{free(n)}
			for i := range 4000 {
				// Of ten calls some have a lock or a process that may not be.
				which, lock, p := c.next(9)/4, c.next(n+1)-c.next(20)/19, c.next(procs)-c.next(20)/19
				// Who holds a lock gives it now and then, else all would wait.
				if i/200%2 == 1 && lock >= 0 && lock < n && c.next(3) > 0 {
					which, p = 1, twin.s.owners[lock]
				}
				got, want := call(l, which, lock, p), call(twin, which, lock, p)
				if !alike(got, want) {
					t.Fatalf("%d locks, %d processes, step %d, call %d to %d by %d: %v, not %v", n, procs, i, which, lock, p, got, want)
				}
			}
			is(t, l, twin.s)
		}
	}
}

func TestWordsHoldWhateverIsAsked(t *testing.T) {
	c := chance(4)
	for _, n := range []int{1, 2, 5, 8} {
		l, most := made(t, n), 0
		for i := range 5000 {
			call(l, c.next(15)/7, c.next(n), c.next(12))
			s := told(l)
			if wrong(s) != api.OK {
				t.Fatalf("step %d: %v", i, s)
			}
			all := slices.Concat(s.queues...)
			most = max(most, len(all))
			for lock, q := range s.queues {
				for _, p := range q {
					waits(t, l, p, lock, true)
				}
			}
		}
		if most < 5 {
			t.Errorf("%d locks: at most %d waited, too few to tell", n, most)
		}
	}
}

func TestWhoWaitsHasItBehindAsManyGivesAsStandAheadAndOne(t *testing.T) {
	c := chance(8)
	for _, many := range []int{1, 2, 3, 10, 40} {
		for at := range many {
			queue := line(1, many)
			l := laid(t, stands(row(90, 0, -1), nil, queue, nil))
			p, owner := queue[at], 0
			for gives := range at + 1 {
				// None of these is a give of that lock by who holds it, and nobody ends who stands ahead.
				for k := range 5 {
					call(l, 0, 1, 100+c.next(50))
					call(l, 1, 1, queue[many-1])
					call(l, 1, 1, 100+c.next(50))
					call(l, 1, c.next(2)*2, owner)
					call(l, 0, 2, 200+k)
					call(l, 2, 0, 100+c.next(50))
				}
				if lock, still := l.Waits(p); lock != 1 || !still {
					t.Fatalf("place %d of %d, behind %d gives: Waits: %d, %v", at, many, gives, lock, still)
				}
				give(t, l, 1, owner, queue[gives], api.OK)
				owner = queue[gives]
			}
			waits(t, l, p, 0, false)
			holds(t, l, p, 1)
		}
	}
}

func TestAnEndAheadIsOneGiveLess(t *testing.T) {
	for ended := range 4 {
		queue := line(1, 6)
		l := laid(t, stands(row(0), queue))
		end(t, l, queue[ended])
		rest, owner := slices.Delete(queue, ended, ended+1), 0
		for _, p := range rest[:4] {
			give(t, l, 0, owner, p, api.OK)
			owner = p
		}
		holds(t, l, 5, 0)
	}
	// An End of who holds it gives it.
	l := laid(t, stands(row(0), row(1, 2)))
	end(t, l, 0, Given{0, 1})
	end(t, l, 1, Given{0, 2})
	holds(t, l, 2, 0)
}

func TestWhoCameFirstHasItFirst(t *testing.T) {
	c := chance(6)
	l, came, n := made(t, 1), []int(nil), 0
	for i := range 20000 {
		owner := told(l).owners[0]
		p := c.next(60)
		switch had, e := l.Take(0, p); {
		case e == api.OK && !had:
			came = append(came, p)
		case had && owner == -1:
			owner = p
		}
		if c.next(5) == 0 {
			p := c.next(60)
			if _, waits := l.Waits(p); waits {
				end(t, l, p)
				came = slices.DeleteFunc(came, func(w int) bool { return w == p })
			}
		}
		if c.next(2) > 0 {
			continue
		}
		want := -1
		if len(came) > 0 {
			want, came, n = came[0], came[1:], n+1
		}
		give(t, l, 0, owner, want, api.OK)
		if t.Failed() {
			t.Fatalf("step %d", i)
		}
	}
	if n < 5000 {
		t.Errorf("handed on %d times, too few to tell", n)
	}
}

func TestLayOfStateIsTheSame(t *testing.T) {
	c := chance(3)
	for _, n := range []int{0, 1, 3, 8} {
		l := made(t, n)
		for i := range 3000 {
			call(l, c.next(15)/7, c.next(n+1), c.next(12))
			again, on := laid(t, told(l)), laid(t, told(l))
			is(t, again, told(l))
			for k := range 6 {
				which, lock, p := c.next(calls), c.next(n+1), c.next(12)
				got := call(again, which, lock, p)
				again = laid(t, got.s)
				if want := call(on, which, lock, p); !alike(got, want) {
					t.Fatalf("%d locks, step %d, call %d: %v, not %v", n, i, k, got, want)
				}
			}
		}
	}
	for _, s := range allowed() {
		is(t, laid(t, told(laid(t, s))), s)
	}
}

// ring tells whether somebody waits in a ring: each for who holds what they wait for.
func ring(l rows) bool {
	owners, queues := l.State()
	for _, p := range slices.Concat(queues...) {
		at := p
		// A ring has no more in it than hold locks; one ahead that p is not in is found from one who is.
		for range owners {
			lock, waits := l.Waits(at)
			if !waits {
				break
			}
			if at = owners[lock]; at == p {
				return true
			}
		}
	}
	return false
}

// rising tells whether a lock is above all that one holds.
func rising(l rows, lock, p int) bool {
	held := l.Holds(p)
	return len(held) == 0 || held[len(held)-1] < lock
}

func TestARingIsFoundWhereThereIsOne(t *testing.T) {
	for _, s := range []stand{stands(row(5, 6), row(6), row(5)), stands(row(1, 2, 3), row(9, 3), row(1, 8), row(2)), stands(row(4, 5, 6), row(7), row(6), row(8, 5))} {
		if !ring(laid(t, s)) {
			t.Errorf("no ring in %v", s)
		}
	}
	if ring(laid(t, stands(row(5, 6, 5), row(7), row(5), row(8, 9)))) || ring(made(t, 8)) {
		t.Error("a ring where there is none")
	}
	l := made(t, 2)
	take(t, l, 1, 5, true, api.OK)
	take(t, l, 0, 6, true, api.OK)
	take(t, l, 1, 6, false, api.OK)
	take(t, l, 0, 5, false, api.OK)
	if !ring(l) {
		t.Error("no ring where one is taken against the order")
	}
}

func TestNobodyWaitsInARingWhereAllTakeInRisingOrder(t *testing.T) {
	c := chance(2)
	for _, procs := range []int{2, 3, 5, 9} {
		for n := 2; n <= 8; n++ {
			l, most, held := made(t, n), 0, 0
			for i := range 4000 {
				which, lock, p := c.next(2), c.next(n), c.next(procs)
				if c.next(100) == 0 {
					which = 2
				}
				// Who holds a lock takes more, or gives it, else all would wait.
				if owner := told(l).owners[c.next(n)]; c.next(2) == 0 && owner >= 0 {
					p = owner
				}
				if _, waits := l.Waits(p); which == 0 && (waits || !rising(l, lock, p)) {
					continue
				}
				call(l, which, lock, p)
				if ring(l) {
					t.Fatalf("%d locks, %d processes, step %d: a ring in %v", n, procs, i, told(l))
				}
				most, held = max(most, len(slices.Concat(told(l).queues...))), max(held, len(l.Holds(p)))
			}
			if most < 1 || held < 2 {
				t.Errorf("%d locks, %d processes: at most %d waited, one held %d: too few to tell", n, procs, most, held)
			}
		}
	}
}

func TestMany(t *testing.T) {
	const many = 100000
	l := made(t, 2)
	take(t, l, 1, many, true, api.OK)
	for p := range many {
		take(t, l, 1, p, false, api.OK)
	}
	for p := range 100 {
		end(t, l, p*997+1)
	}
	owner := many
	for p := range many {
		if p%997 == 1 && p/997 < 100 {
			continue
		}
		give(t, l, 1, owner, p, api.OK)
		owner = p
	}
	give(t, l, 1, owner, -1, api.OK)
	is(t, l, free(2))
}

// Nothing is kept of who neither holds nor waits.
func TestWhoIsGoneIsNotKept(t *testing.T) {
	l := made(t, 1)
	for p := range 100000 {
		take(t, l, 0, p, p == 0, api.OK)
		if p >= 3 {
			give(t, l, 0, p-3, p-2, api.OK)
		}
	}
	if len(l.waits) != 2 || cap(l.queues[0]) > 16 {
		t.Errorf("%d of those who wait are kept, with room for %d", len(l.waits), cap(l.queues[0]))
	}
	for p := range 100000 {
		l.End(p)
	}
	if len(l.waits) != 0 || len(l.queues[0]) != 0 {
		t.Errorf("%d of those who waited are kept", len(l.waits))
	}
}

// P12.6

// spare is a list with room behind it, in which something stands.
func spare[T any](list, behind []T) []T { return slices.Concat(list, behind)[:len(list)] }

// whole is a list with all the room that is behind it.
func whole[T any](list []T) []T { return list[:cap(list)] }

// scribble writes over all that a list has, and the room behind it.
func scribble[T any](list []T, with T) {
	for i := range whole(list) {
		whole(list)[i] = with
	}
}

// scrawl writes over all lists of a stand.
func scrawl(s stand) {
	scribble(s.owners, 77)
	for _, q := range s.queues {
		scribble(q, 77)
	}
	scribble(s.queues, row(77))
}

// work does much with locks: each of their lists grows and shrinks.
func work(l *Locks) {
	c := chance(1)
	for range 300 {
		call(l, c.next(9)/4, c.next(8), 60+c.next(20))
		call(l, 1+c.next(2), c.next(8), c.next(20))
	}
}

func TestLayNeitherChangesNorKeepsWhatIsHandedIn(t *testing.T) {
	for _, want := range allowed() {
		s := stand{spare(want.owners, line(900, 9)), spare(slices.Clone(want.queues), [][]int{row(91), row(92)})}
		for i, q := range s.queues {
			s.queues[i] = spare(q, line(800, 9))
		}
		var before [][]int
		for _, q := range append([][]int{s.owners}, whole(s.queues)...) {
			before = append(before, slices.Clone(whole(q)))
		}
		l, busy := laid(t, s), laid(t, s)
		work(busy)
		for i, q := range append([][]int{s.owners}, whole(s.queues)...) {
			if !slices.Equal(whole(q), before[i]) {
				t.Fatalf("Lay, and what came behind it, made %v of what was handed in, not %v", whole(q), before[i])
			}
		}
		scrawl(s)
		is(t, l, want)
	}
}

func TestTakeNeverGrowsIntoWhatIsHandedIn(t *testing.T) {
	back := line(10, 8)
	l := laid(t, stands(row(1, 2, 3), back[:2], back[2:4], back[4:4]))
	for p := range 5 {
		for lock := range 3 {
			take(t, l, lock, 50+10*lock+p, false, api.OK)
		}
	}
	end(t, l, 10)
	end(t, l, 13)
	give(t, l, 1, 2, 12, api.OK)
	if !slices.Equal(back, line(10, 8)) {
		t.Errorf("what was handed in is %v", back)
	}
	is(t, l, stands(row(1, 12, 3), append(row(11), line(50, 5)...), line(60, 5), line(70, 5)))
}

func TestLayOfOneListForTwo(t *testing.T) {
	none := make([]int, 0, 8)
	l := laid(t, stands(row(1, 2), none, none))
	take(t, l, 0, 5, false, api.OK)
	take(t, l, 1, 6, false, api.OK)
	is(t, l, stands(row(1, 2), row(5), row(6)))
	if !slices.Equal(whole(none), make([]int, 8)) {
		t.Errorf("what was handed in is %v", whole(none))
	}
}

func TestLayOfWhatMayNotBeChangesNothing(t *testing.T) {
	queue := spare(row(6, 7, 6), line(80, 5))
	owners := spare(row(5, -1), line(90, 5))
	refused(t, stands(owners, queue, nil), api.ErrForm)
	refused(t, stands(owners, queue), api.ErrForm)
	refused(t, stands(whole(owners), make([][]int, 9)...), api.ErrMany)
	if !slices.Equal(whole(queue)[:8], append(row(6, 7, 6), line(80, 5)...)) || !slices.Equal(whole(owners)[:7], append(row(5, -1), line(90, 5)...)) {
		t.Errorf("what was handed in is %v, %v", whole(owners), whole(queue))
	}
}

func TestLocksLaidAlikeAreTheirOwn(t *testing.T) {
	for _, s := range allowed() {
		a, b := laid(t, s), laid(t, s)
		work(a)
		is(t, b, s)
	}
}

func TestStateSharesNoMemory(t *testing.T) {
	c := chance(7)
	for _, start := range allowed() {
		l := laid(t, start)
		for i := range 100 {
			call(l, c.next(9)/4, c.next(8), c.next(12))
			a, b := told(l), told(l)
			want := b.clone()
			scrawl(a)
			if !same(b, want) {
				t.Fatalf("%v, step %d: two answers share memory: %v", start, i, b)
			}
			is(t, l, want)
			work(l)
			if !same(b, want) {
				t.Fatalf("%v, step %d: what came later made %v of an answer", start, i, b)
			}
			l = laid(t, want)
		}
	}
}

func TestNoTwoListsOfStateShareMemory(t *testing.T) {
	c := chance(17)
	for _, start := range allowed() {
		l := laid(t, start)
		for i := range 100 {
			call(l, c.next(9)/4, c.next(8), c.next(12))
			want := told(l).clone()
			for at := range len(want.queues) {
				s := told(l)
				scribble(s.queues[at], 77)
				_ = append(s.queues[at], 78, 79)
				s.queues[at] = want.queues[at]
				if !same(s, want) {
					t.Fatalf("%v, step %d: two lists of an answer share memory: %v, not %v", start, i, s, want)
				}
			}
			s := told(l)
			scribble(s.owners, 77)
			_ = append(s.owners, 78, 79)
			if s.owners = want.owners; !same(s, want) {
				t.Fatalf("%v, step %d: owners and queues share memory: %v", start, i, s)
			}
		}
	}
}

func TestHoldsSharesNoMemory(t *testing.T) {
	s := stands(row(0, 1, 0, 0, 5), row(2), row(3), nil, nil, nil)
	l := laid(t, s)
	a, b := l.Holds(0), l.Holds(0)
	scribble(a, 77)
	_ = append(a, 78, 79)
	if !slices.Equal(b, row(0, 2, 3)) {
		t.Errorf("two answers share memory: %v", b)
	}
	is(t, l, s)
	end(t, l, 0, Given{0, 2}, Given{2, -1}, Given{3, -1})
	work(l)
	if !slices.Equal(b, row(0, 2, 3)) {
		t.Errorf("what came later made %v of an answer", b)
	}
}

func TestEndSharesNoMemory(t *testing.T) {
	l := laid(t, stands(row(0, 0, 0, 9), row(1, 2), nil, row(3), nil))
	out := l.End(0)
	want := []Given{{0, 1}, {1, -1}, {2, 3}}
	work(l)
	if !slices.Equal(out, want) {
		t.Errorf("what came later made %v of an answer", out)
	}
	l = laid(t, stands(row(0, 0, 0, 9), row(1, 2), nil, row(3), nil))
	out = l.End(0)
	scribble(out, Given{77, 77})
	_ = append(out, Given{78, 78}, Given{79, 79})
	is(t, l, stands(row(1, -1, 3, 9), row(2), nil, nil, nil))
	end(t, l, 1, Given{0, 2})
}

// R4

func TestAskingChangesNothing(t *testing.T) {
	for _, s := range allowed() {
		l := laid(t, s)
		for range 3 {
			is(t, l, s)
		}
	}
}

func TestTheSameRowHasTheSameAnswers(t *testing.T) {
	c := chance(5)
	a, b := made(t, 8), made(t, 8)
	for i := range 5000 {
		which, lock, p := c.next(15)/7, c.next(8), c.next(40)
		x, y := call(a, which, lock, p), call(b, which, lock, p)
		if !alike(x, y) {
			t.Fatalf("step %d: %v and %v", i, x, y)
		}
	}
}

// The chapter's examples

func TestExampleOfTakeAndGive(t *testing.T) {
	l := made(t, 2)
	take(t, l, 0, 5, true, api.OK)
	take(t, l, 0, 6, false, api.OK)
	take(t, l, 0, 7, false, api.OK)
	take(t, l, 1, 6, false, api.ErrState)
	take(t, l, 0, 5, true, api.OK)
	waits(t, l, 6, 0, true)
	give(t, l, 0, 6, 5, api.OK)
	give(t, l, 0, 5, 6, api.OK)
	give(t, l, 0, 6, 7, api.OK)
	give(t, l, 0, 7, -1, api.OK)
}

func TestExampleOfEnd(t *testing.T) {
	l := made(t, 2)
	take(t, l, 0, 1, true, api.OK)
	take(t, l, 1, 1, true, api.OK)
	take(t, l, 1, 2, false, api.OK)
	take(t, l, 0, 3, false, api.OK)
	holds(t, l, 1, 0, 1)
	end(t, l, 1, Given{0, 3}, Given{1, 2})
	end(t, l, 9)
}

func TestExamplesOfWhatMayNotBe(t *testing.T) {
	l := made(t, 2)
	take(t, l, 2, 1, false, api.ErrRange)
	take(t, l, -1, -1, false, api.ErrRange)
	take(t, l, 0, -1, false, api.ErrArg)
	if l, e := New(9); l != nil || e != api.ErrArg {
		t.Errorf("New(9): %v, %d", l, e)
	}
	laid(t, stands(row(5, -1), row(6), nil))
	refused(t, stands(row(-1), row(6)), api.ErrForm)
	refused(t, stands(row(5), row(5)), api.ErrForm)
	refused(t, stands(row(5, 6), row(7), row(7)), api.ErrForm)
	refused(t, stands(row(5)), api.ErrForm)
}
