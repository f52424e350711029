package wheel

import (
	"math"
	"slices"
	"testing"

	"firebreak/api"
)

// below are numbers below 0.
var below = []int64{-1, -2, -1 << 31, -1<<31 - 1, -1 << 32, -1 << 40, math.MinInt64 + 1, math.MinInt64}

// anybody are numbers that may be set; anytime are times at which one may be due.
var (
	anybody = []int{0, 1, 2, 31, 32, 63, 64, 65535, 1<<31 - 1, 1 << 31, 1 << 32, 1<<32 + 1, math.MaxInt - 1, math.MaxInt}
	anytime = []int64{0, 1, 2, 65535, 1<<31 - 1, 1 << 31, 1 << 32, 1<<32 + 1, api.MaxTimer, 1 << 53, 1<<53 + 1, math.MaxInt64 - 1, math.MaxInt64}
)

// timer is a number and when it is due.
type timer struct {
	id  int
	due int64
}

// laid is a wheel on which these are set, one behind the other.
func laid(t *testing.T, list ...timer) *Wheel {
	t.Helper()
	w := New()
	if w == nil {
		t.Fatal("New: nil")
	}
	for _, x := range list {
		set(t, w, x.id, x.due, api.OK)
	}
	return w
}

// is asks that just these are set, and nobody else of anybody; no number is among these twice.
func is(t *testing.T, w *Wheel, list ...timer) {
	t.Helper()
	if got := w.Len(); got != len(list) {
		t.Errorf("Len: %d, not that of %v", got, list)
	}
	others := slices.Clone(anybody)
	first, some := int64(0), len(list) > 0
	for i, x := range list {
		due(t, w, x.id, x.due, true)
		if i == 0 || x.due < first {
			first = x.due
		}
		others = slices.DeleteFunc(others, func(id int) bool { return id == x.id })
	}
	for _, id := range others {
		due(t, w, id, 0, false)
	}
	next(t, w, first, some)
}

func set(t *testing.T, w *Wheel, id int, at int64, want api.Errno) {
	t.Helper()
	if e := w.Set(id, at); e != want {
		t.Errorf("Set(%d, %d): %d, not %d", id, at, e, want)
	}
}

func cleared(t *testing.T, w *Wheel, id int, want bool) {
	t.Helper()
	if got := w.Clear(id); got != want {
		t.Errorf("Clear(%d): %v", id, got)
	}
}

func due(t *testing.T, w *Wheel, id int, at int64, want bool) {
	t.Helper()
	if got, is := w.Due(id); got != at || is != want {
		t.Errorf("Due(%d): %d, %v, not %d, %v", id, got, is, at, want)
	}
}

func next(t *testing.T, w *Wheel, at int64, want bool) {
	t.Helper()
	if got, is := w.Next(); got != at || is != want {
		t.Errorf("Next: %d, %v, not %d, %v", got, is, at, want)
	}
}

func popped(t *testing.T, w *Wheel, now int64, want ...int) {
	t.Helper()
	if got := w.Pop(now); !slices.Equal(got, want) {
		t.Errorf("Pop(%d): %v, not %v", now, got, want)
	}
}

func TestTheErrorThatComesHere(t *testing.T) {
	if api.OK != 0 || api.ErrArg != 1 {
		t.Error("the numbers of the errors")
	}
}

// P11.1

func TestNew(t *testing.T) {
	w := laid(t)
	is(t, w)
	for _, now := range append(slices.Clone(anytime), below...) {
		popped(t, w, now)
	}
	for _, id := range append(slices.Clone(anybody), -1, math.MinInt) {
		cleared(t, w, id, false)
		due(t, w, id, 0, false)
	}
	is(t, w)
	set(t, w, 4, 5, api.OK)
	is(t, w, timer{4, 5})
	// Another one is its own.
	is(t, laid(t))
}

func TestSet(t *testing.T) {
	for _, id := range anybody {
		for _, at := range anytime {
			w := laid(t, timer{id, at})
			is(t, w, timer{id, at})
			popped(t, w, at, id)
			is(t, w)
		}
	}
	w := laid(t)
	var list []timer
	for i, id := range anybody {
		x := timer{id, anytime[(i*5+3)%len(anytime)]}
		set(t, w, x.id, x.due, api.OK)
		list = append(list, x)
		is(t, w, list...)
	}
}

func TestSetOfWhatMayNotBe(t *testing.T) {
	for _, list := range [][]timer{nil, {{0, 0}}, {{1, 1}}, {{0, 5}, {1, 5}, {2, 0}}} {
		w := laid(t, list...)
		for _, low := range below {
			for _, at := range anytime {
				set(t, w, int(low), at, api.ErrArg)
			}
			for _, id := range anybody {
				set(t, w, id, low, api.ErrArg)
			}
			set(t, w, int(low), low, api.ErrArg)
			is(t, w, list...)
			due(t, w, int(low), 0, false)
		}
		popped(t, w, -1)
		is(t, w, list...)
	}
}

func TestSetAnew(t *testing.T) {
	for _, others := range [][]timer{nil, {{0, 0}}, {{0, 10}, {2, 10}}, {{3, 40}, {4, 0}, {5, 10}, {6, 12}}} {
		for _, first := range []int64{0, 9, 10, 11, 50} {
			for _, then := range []int64{0, 9, 10, 11, 50} {
				w := laid(t, others...)
				set(t, w, 1, first, api.OK)
				is(t, w, append(slices.Clone(others), timer{1, first})...)
				set(t, w, 1, then, api.OK)
				is(t, w, append(slices.Clone(others), timer{1, then})...)
				for _, now := range []int64{-1, 0, 8, 9, 10, 11, 49, 50, 51} {
					if got := slices.Contains(w.Pop(now), 1); got != (now == then) {
						t.Errorf("set at %d and anew at %d: Pop(%d) has it: %v", first, then, now, got)
					}
				}
				is(t, w)
			}
		}
	}
}

func TestSetAnewAgainAndAgain(t *testing.T) {
	w := laid(t, timer{0, 7}, timer{2, 7})
	for i := range int64(100) {
		set(t, w, 1, 3*i%10, api.OK)
		is(t, w, timer{0, 7}, timer{1, 3 * i % 10}, timer{2, 7})
	}
	// It was set at 7 ten times, the last time of all among them.
	popped(t, w, 6)
	popped(t, w, 7, 0, 1, 2)
	is(t, w)
	popped(t, w, 100)
	set(t, w, 1, 4, api.OK)
	set(t, w, 1, 5, api.OK)
	set(t, w, 1, 4, api.OK)
	is(t, w, timer{1, 4})
	popped(t, w, 4, 1)
	popped(t, w, 4)
	popped(t, w, 5)
}

func TestClear(t *testing.T) {
	all := []timer{{0, 0}, {1, 5}, {2, 5}, {3, 2}, {4, 9}}
	for i, x := range all {
		rest := slices.Delete(slices.Clone(all), i, i+1)
		w := laid(t, all...)
		cleared(t, w, x.id, true)
		is(t, w, rest...)
		cleared(t, w, x.id, false)
		is(t, w, rest...)
		var want []int
		for _, r := range []timer{{0, 0}, {3, 2}, {1, 5}, {2, 5}, {4, 9}} {
			if r != x {
				want = append(want, r.id)
			}
		}
		popped(t, w, 9, want...)
		is(t, w)
	}
	w := laid(t, all...)
	for i, x := range all {
		cleared(t, w, x.id, true)
		is(t, w, all[i+1:]...)
	}
	popped(t, w, math.MaxInt64)
}

func TestClearAndDueOfOneThatIsNotSet(t *testing.T) {
	list := []timer{{1, 5}, {3, 0}}
	w := laid(t, list...)
	for _, id := range append(slices.Clone(anybody), -1, -2, -3, math.MinInt) {
		if id == 1 {
			continue
		}
		cleared(t, w, id, false)
		due(t, w, id, 0, false)
	}
	is(t, w, list...)
	popped(t, w, 5, 3, 1)
}

func TestClearAndSetAgain(t *testing.T) {
	for _, first := range []int64{0, 4, 5, 6} {
		for _, then := range []int64{0, 4, 5, 6} {
			w := laid(t, timer{1, 5}, timer{3, 5}, timer{2, first})
			cleared(t, w, 2, true)
			is(t, w, timer{1, 5}, timer{3, 5})
			set(t, w, 2, then, api.OK)
			is(t, w, timer{1, 5}, timer{3, 5}, timer{2, then})
			for now := int64(-1); now < 8; now++ {
				if got := slices.Contains(w.Pop(now), 2); got != (now == then) {
					t.Errorf("cleared of %d and set again at %d: Pop(%d) has it: %v", first, then, now, got)
				}
			}
			is(t, w)
		}
	}
}

func TestClearOfOneThatWasPopped(t *testing.T) {
	w := laid(t, timer{0, 0}, timer{1, 3}, timer{2, 4})
	popped(t, w, 3, 0, 1)
	cleared(t, w, 0, false)
	cleared(t, w, 1, false)
	is(t, w, timer{2, 4})
	set(t, w, 1, 3, api.OK)
	cleared(t, w, 1, true)
	cleared(t, w, 1, false)
	popped(t, w, 3)
	popped(t, w, 4, 2)
	cleared(t, w, 2, false)
	is(t, w)
}

// An absent number looks like 0 that is due at 0.
func TestTheNumber0AtTheTime0(t *testing.T) {
	w := laid(t)
	due(t, w, 0, 0, false)
	next(t, w, 0, false)
	popped(t, w, 0)
	set(t, w, 0, 0, api.OK)
	is(t, w, timer{0, 0})
	popped(t, w, -1)
	is(t, w, timer{0, 0})
	cleared(t, w, 0, true)
	is(t, w)
	popped(t, w, 0)
	set(t, w, 1, 7, api.OK)
	set(t, w, 0, 0, api.OK)
	cleared(t, w, 0, true)
	is(t, w, timer{1, 7})
	popped(t, w, 0)
	set(t, w, 0, 0, api.OK)
	popped(t, w, 0, 0)
	popped(t, w, 0)
	is(t, w, timer{1, 7})
	set(t, w, 0, 0, api.OK)
	set(t, w, 0, 7, api.OK)
	popped(t, w, 0)
	popped(t, w, 7, 0, 1)
}

// P11.2

func TestPopAheadOfATimeAtItAndBehindIt(t *testing.T) {
	for _, at := range anytime {
		w := laid(t, timer{8, at})
		for _, now := range append(slices.Clone(below), at-1) {
			popped(t, w, now)
			is(t, w, timer{8, at})
		}
		popped(t, w, at, 8)
		is(t, w)
		for _, now := range anytime {
			popped(t, w, now)
		}
		// Each time that is behind it does as well.
		for _, now := range anytime {
			if now < at {
				continue
			}
			set(t, w, 8, at, api.OK)
			popped(t, w, now, 8)
			is(t, w)
		}
	}
}

func TestPopWithANowBelow0(t *testing.T) {
	list := []timer{{0, 0}, {1, 0}, {2, 1}, {3, math.MaxInt64}}
	w := laid(t, list...)
	for _, now := range below {
		popped(t, w, now)
		is(t, w, list...)
	}
	popped(t, w, 0, 0, 1)
}

func TestPopOfSeveralAtOneTime(t *testing.T) {
	for n := 1; n <= 40; n++ {
		w := laid(t)
		var want []int
		for i := range n {
			// 41 is prime: each number comes once.
			set(t, w, (i+1)*17%41, 6, api.OK)
			want = append(want, (i+1)*17%41)
		}
		slices.Sort(want)
		set(t, w, 41, 5, api.OK)
		set(t, w, 0, 7, api.OK)
		next(t, w, 5, true)
		popped(t, w, 4)
		popped(t, w, 6, append([]int{41}, want...)...)
		is(t, w, timer{0, 7})
	}
}

func TestPopTellsTheOneThatIsDueFirstFirst(t *testing.T) {
	w := laid(t, timer{1, 30}, timer{2, 20}, timer{3, 10}, timer{4, 30}, timer{0, 31}, timer{5, 10}, timer{6, 0})
	next(t, w, 0, true)
	popped(t, w, 30, 6, 3, 5, 2, 1, 4)
	is(t, w, timer{0, 31})
	// Numbers and times that are far apart.
	w = laid(t, timer{math.MaxInt, 0}, timer{0, math.MaxInt64}, timer{1 << 32, 1 << 32}, timer{0xffff, 1 << 32}, timer{1, 1<<32 + 1})
	popped(t, w, math.MaxInt64, math.MaxInt, 0xffff, 1<<32, 1, 0)
}

func TestNextAndLenBehindEach(t *testing.T) {
	w := laid(t)
	for i := range 20 {
		set(t, w, i, int64(100-5*i), api.OK)
		next(t, w, int64(100-5*i), true)
		if w.Len() != i+1 {
			t.Errorf("Len behind %d: %d", i+1, w.Len())
		}
	}
	for i := 19; i > 10; i-- {
		cleared(t, w, i, true)
		next(t, w, int64(105-5*i), true)
	}
	for i := 10; i > 0; i-- {
		popped(t, w, int64(100-5*i), i)
		next(t, w, int64(105-5*i), true)
		if w.Len() != i {
			t.Errorf("Len behind %d: %d", i, w.Len())
		}
	}
	set(t, w, 0, 400, api.OK)
	next(t, w, 400, true)
	set(t, w, 0, 3, api.OK)
	next(t, w, 3, true)
	popped(t, w, 3, 0)
	next(t, w, 0, false)
}

// A wheel has no time of its own: what is set at a time that was popped is due there still.
func TestPopKeepsNoTime(t *testing.T) {
	w := laid(t, timer{1, 50})
	popped(t, w, 100, 1)
	set(t, w, 1, 50, api.OK)
	set(t, w, 2, 0, api.OK)
	set(t, w, 3, 101, api.OK)
	is(t, w, timer{1, 50}, timer{2, 0}, timer{3, 101})
	popped(t, w, 0, 2)
	popped(t, w, 49)
	popped(t, w, 50, 1)
	popped(t, w, 7)
	is(t, w, timer{3, 101})
}

// P11.3

// chance makes numbers that look like chance, the same ones each time.
type chance uint64

func (c *chance) next(n int) int {
	*c = *c*6364136223846793005 + 1442695040888963407
	return int(uint64(*c>>33) % uint64(n))
}

// wheels is all that can be asked of a wheel.
type wheels interface {
	Set(id int, due int64) api.Errno
	Clear(id int) bool
	Due(id int) (int64, bool)
	Len() int
	Pop(now int64) []int
	Next() (int64, bool)
}

// plain is a wheel as the chapter tells it: a list that is gone through each time.
type plain struct{ list []timer }

func (p *plain) at(id int) int {
	return slices.IndexFunc(p.list, func(x timer) bool { return x.id == id })
}

func (p *plain) Set(id int, due int64) api.Errno {
	if id < 0 || due < 0 {
		return api.ErrArg
	}
	p.Clear(id)
	p.list = append(p.list, timer{id, due})
	return api.OK
}

func (p *plain) Clear(id int) bool {
	i := p.at(id)
	if i >= 0 {
		p.list = slices.Delete(p.list, i, i+1)
	}
	return i >= 0
}

func (p *plain) Due(id int) (int64, bool) {
	if i := p.at(id); i >= 0 {
		return p.list[i].due, true
	}
	return 0, false
}

func (p *plain) Len() int { return len(p.list) }

// first is the place of the one that is due first, and has the least number of these.
func (p *plain) first() int {
	best := 0
	for i, x := range p.list {
		if b := p.list[best]; x.due < b.due || x.due == b.due && x.id < b.id {
			best = i
		}
	}
	return best
}

func (p *plain) Pop(now int64) []int {
	var out []int
	for len(p.list) > 0 && p.list[p.first()].due <= now {
		id := p.list[p.first()].id
		out = append(out, id)
		p.Clear(id)
	}
	return out
}

func (p *plain) Next() (int64, bool) {
	if len(p.list) == 0 {
		return 0, false
	}
	return p.list[p.first()].due, true
}

// answer is what a call answered, and what the wheel tells behind it.
type answer struct {
	e    api.Errno
	was  bool
	out  []int
	next int64
	some bool
	len  int
	dues []int64
	set  []bool
}

// call does one of the calls of so many numbers and times: Set and Pop with a time, Clear; some of Set and Pop with -1.
func call(w wheels, which, ids, times int) answer {
	var a answer
	switch {
	case which < ids*times:
		a.e = w.Set(which/times, int64(which%times))
	case which < ids*times+ids:
		a.was = w.Clear(which - ids*times)
	case which < ids*times+ids+times+1:
		a.out = w.Pop(int64(which - ids*times - ids - 1))
	case which == ids*times+ids+times+1:
		a.e = w.Set(-1, 0)
	default:
		a.e = w.Set(0, -1)
	}
	return tell(w, a, ids)
}

// calls are how many there are.
func calls(ids, times int) int { return ids*times + ids + times + 3 }

// tell asks all that can be asked without a change.
func tell(w wheels, a answer, ids int) answer {
	a.next, a.some = w.Next()
	a.len = w.Len()
	for id := -1; id <= ids; id++ {
		at, is := w.Due(id)
		a.dues, a.set = append(a.dues, at), append(a.set, is)
	}
	return a
}

// alike tells whether two answers are the same.
func alike(a, b answer) bool {
	return a.e == b.e && a.was == b.was && slices.Equal(a.out, b.out) && a.next == b.next && a.some == b.some && a.len == b.len && slices.Equal(a.dues, b.dues) && slices.Equal(a.set, b.set)
}

func TestEveryRowOfCalls(t *testing.T) {
	for _, x := range []struct{ ids, times, steps int }{{1, 3, 6}, {2, 2, 5}, {3, 3, 4}, {2, 1, 6}} {
		n, rows := calls(x.ids, x.times), 1
		for range x.steps {
			rows *= n
		}
		for row := range rows {
			w, twin := New(), &plain{}
			for rest := row; rest > 0; rest /= n {
				got, want := call(w, rest%n, x.ids, x.times), call(twin, rest%n, x.ids, x.times)
				if !alike(got, want) {
					t.Fatalf("%v, row %d, at %d: %v, not %v", x, row, rest, got, want)
				}
			}
		}
	}
}

func TestLongRowsOfCalls(t *testing.T) {
	c := chance(5)
	for _, ids := range []int{1, 2, 7, 64} {
		for _, times := range []int{1, 2, 10, 100} {
			w, twin := New(), &plain{}
			for i := range 4000 {
				which := c.next(calls(ids, times))
				// At times more is cleared than set, so that it is full and empty again.
				if i/1000%2 == 1 && c.next(2) == 0 {
					which = ids*times + c.next(ids)
				}
				got, want := call(w, which, ids, times), call(twin, which, ids, times)
				if !alike(got, want) {
					t.Fatalf("%d numbers, %d times, step %d, call %d: %v, not %v", ids, times, i, which, got, want)
				}
			}
		}
	}
}

// orders are all orders of a list.
func orders[T any](list []T) [][]T {
	if len(list) < 2 {
		return [][]T{slices.Clone(list)}
	}
	var all [][]T
	for i := range list {
		rest := slices.Delete(slices.Clone(list), i, i+1)
		for _, o := range orders(rest) {
			all = append(all, append([]T{list[i]}, o...))
		}
	}
	return all
}

func TestHowSetsOfUnlikeNumbersStoodMakesNoDifference(t *testing.T) {
	for _, list := range [][]timer{
		{{0, 3}, {1, 3}, {2, 3}, {3, 3}, {4, 3}, {5, 3}},
		{{0, 5}, {1, 4}, {2, 3}, {3, 2}, {4, 1}, {5, 0}},
		{{0, 2}, {1, 0}, {2, 2}, {3, 0}, {4, 1}, {5, 1}},
		{{9, 1}, {8, 1}, {7, 0}, {3, 9}, {4, 9}},
	} {
		first := laid(t, list...)
		var want [][]int
		for now := int64(-1); now < 10; now++ {
			want = append(want, first.Pop(now))
		}
		for _, o := range orders(list) {
			w := laid(t, o...)
			is(t, w, list...)
			for now := int64(-1); now < 10; now++ {
				popped(t, w, now, want[now+1]...)
			}
			is(t, w)
		}
	}
}

// Sets anew stay behind the Sets of their own number; all else of their order makes no difference.
func TestHowSetsAnewStoodAmongOthersMakesNoDifference(t *testing.T) {
	for _, o := range orders([]int{0, 0, 1, 1, 2, 3, 3}) {
		// The first Set of a number is at 4, the second one at its own time.
		w, seen := laid(t), [4]int{}
		for _, id := range o {
			set(t, w, id, []int64{4, int64(id) * 3}[seen[id]], api.OK)
			seen[id]++
		}
		is(t, w, timer{0, 0}, timer{1, 3}, timer{2, 4}, timer{3, 9})
		popped(t, w, 3, 0, 1)
		popped(t, w, 8, 2)
		popped(t, w, 9, 3)
	}
}

func TestWhatIsSetIsPoppedOnce(t *testing.T) {
	c := chance(3)
	for range 60 {
		w, set, out := New(), map[timer]int{}, map[timer]int{}
		at := map[int]int64{}
		now := int64(0)
		for i := range 300 {
			// Each number is set once alone, so that it can be told apart.
			x := timer{i * 7 % 300, now + int64(c.next(30))}
			w.Set(x.id, x.due)
			set[x]++
			at[x.id] = x.due
			before := now
			now += int64(c.next(3))
			for _, id := range w.Pop(now) {
				if at[id] > now || at[id] < before {
					t.Errorf("%d is due at %d; popped at %d, and not at %d", id, at[id], now, before)
				}
				out[timer{id, at[id]}]++
			}
		}
		for _, id := range w.Pop(now + 30) {
			out[timer{id, at[id]}]++
		}
		if w.Len() != 0 || len(out) != 300 {
			t.Errorf("%d are left, %d came out", w.Len(), len(out))
		}
		for x, n := range set {
			if n != 1 || out[x] != 1 {
				t.Errorf("%v was set %d times and popped %d times", x, n, out[x])
			}
		}
	}
}

func TestWhetherItIsPoppedAtOnceOrOneByOneMakesNoDifference(t *testing.T) {
	c := chance(8)
	for range 100 {
		var list []timer
		for i := range c.next(40) {
			list = append(list, timer{i, int64(c.next(20))})
		}
		whole := laid(t, list...).Pop(20)
		for _, step := range []int64{1, 2, 7} {
			w := laid(t, list...)
			var out []int
			for now := int64(0); now < 28; now += step {
				out = append(out, w.Pop(now)...)
			}
			if !slices.Equal(out, whole) {
				t.Errorf("%v, each %d: %v, not %v", list, step, out, whole)
			}
		}
	}
}

func TestMany(t *testing.T) {
	const n = 200000
	w := New()
	// 65537 has no common factor with n: each number comes once, far from the one ahead.
	for i := range n {
		w.Set(i*65537%n, int64(n-i))
	}
	for i := 0; i < n; i += 2 {
		w.Set(i, int64(i))
	}
	for i := 0; i < n; i += 3 {
		w.Clear(i)
	}
	want := &plain{}
	for i := range n {
		if id := i * 65537 % n; id%3 != 0 && id%2 == 1 {
			want.list = append(want.list, timer{id, int64(n - i)})
		} else if id%3 != 0 {
			want.list = append(want.list, timer{id, int64(id)})
		}
	}
	slices.SortFunc(want.list, func(a, b timer) int {
		if a.due < b.due || a.due == b.due && a.id < b.id {
			return -1
		}
		return 1
	})
	if w.Len() != len(want.list) {
		t.Fatalf("Len: %d, not %d", w.Len(), len(want.list))
	}
	var out []int
	for now := int64(0); now <= n; now += 1000 {
		out = append(out, w.Pop(now)...)
	}
	for i, x := range want.list {
		if i >= len(out) || out[i] != x.id {
			t.Fatalf("the place %d: not %v", i, x)
		}
	}
	is(t, w)
}

// What is kept from call to call is no more than what is set needs, however often a number was set anew.
func TestWhatDoesNotCountIsNotKept(t *testing.T) {
	for _, times := range []int64{2, 3, 1 << 30} {
		w := laid(t, timer{0, 0}, timer{1, 1 << 40})
		for i := range int64(5000) {
			set(t, w, 2, 5+i%times, api.OK)
			if len(w.order) > 2*w.Len() {
				t.Fatalf("behind %d Sets of one number %d things are kept", i+1, len(w.order))
			}
		}
		for i := range 100 {
			set(t, w, 10+i, 1<<20, api.OK)
		}
		for i := range 100 {
			cleared(t, w, 10+i, true)
			if len(w.order) > 2*w.Len() {
				t.Fatalf("behind %d Clears %d things are kept", i+1, len(w.order))
			}
		}
		w.Pop(1 << 41)
		if len(w.order) > 0 || len(w.set) > 0 {
			t.Errorf("of an empty wheel %d and %d things are kept", len(w.order), len(w.set))
		}
	}
}

// P11.4

// scribble writes over all that a list has, and the room behind it.
func scribble(list []int, with int) {
	list = list[:cap(list)]
	for i := range list {
		list[i] = with
	}
}

func TestPopSharesNoMemory(t *testing.T) {
	c := chance(12)
	w, twin := New(), &plain{}
	var kept, copies [][]int
	for i := range 2000 {
		for range c.next(6) {
			id, at := c.next(50), int64(i+c.next(9))
			w.Set(id, at)
			twin.Set(id, at)
		}
		got, want := w.Pop(int64(i)), twin.Pop(int64(i))
		if !slices.Equal(got, want) {
			t.Fatalf("Pop(%d): %v, not %v", i, got, want)
		}
		if i%2 == 0 {
			// Written over in full and grown, an answer leaves the wheel as it is.
			scribble(got, -1-i)
			_ = append(got, -2, -3)
		} else {
			kept, copies = append(kept, got), append(copies, want)
		}
		if a, b := tell(w, answer{}, 50), tell(twin, answer{}, 50); !alike(a, b) {
			t.Fatalf("behind %d: %v, not %v", i, a, b)
		}
	}
	for i, l := range kept {
		if !slices.Equal(l, copies[i]) {
			t.Errorf("what came later made %v of %v", l, copies[i])
		}
	}
}

func TestNoTwoAnswersOfPopShareMemory(t *testing.T) {
	for _, n := range []int{1, 2, 3, 5, 8, 33} {
		w := laid(t)
		fill := func() {
			for i := range n {
				set(t, w, i, int64(i), api.OK)
			}
		}
		fill()
		a := w.Pop(int64(n))
		fill()
		b := w.Pop(int64(n))
		fill()
		c := w.Pop(int64(n / 2))
		scribble(b, -1)
		_ = append(b, -2)
		for i := range n {
			if a[i] != i || i < len(c) && c[i] != i {
				t.Fatalf("%d: %v, %v", n, a, c)
			}
		}
		for i := n/2 + 1; i < n; i++ {
			due(t, w, i, int64(i), true)
		}
		popped(t, w, 0)
	}
}

func TestWheelsAreTheirOwn(t *testing.T) {
	a, b := laid(t, timer{1, 5}), laid(t, timer{1, 6}, timer{2, 1})
	cleared(t, b, 2, true)
	set(t, a, 3, 3, api.OK)
	is(t, a, timer{1, 5}, timer{3, 3})
	is(t, b, timer{1, 6})
	popped(t, a, 9, 3, 1)
	is(t, a)
	is(t, b, timer{1, 6})
}

// R4

func TestAskingChangesNothing(t *testing.T) {
	list := []timer{{0, 0}, {1, 5}, {2, 5}, {3, math.MaxInt64}}
	w := laid(t, list...)
	for range 3 {
		is(t, w, list...)
	}
	popped(t, w, 5, 0, 1, 2)
	for range 3 {
		is(t, w, list[3])
	}
}

func TestTheSameRowHasTheSameAnswers(t *testing.T) {
	var first []answer
	for round := range 20 {
		c, w := chance(77), New()
		for i := range 500 {
			a := call(w, c.next(calls(20, 5)), 20, 5)
			if round == 0 {
				first = append(first, a)
			} else if !alike(a, first[i]) {
				t.Fatalf("round %d, step %d: %v, not %v", round, i, a, first[i])
			}
		}
	}
}

// The chapter's examples

func TestExamples(t *testing.T) {
	w := laid(t, timer{3, 10}, timer{1, 10}, timer{2, 5})
	is(t, w, timer{1, 10}, timer{2, 5}, timer{3, 10})
	next(t, w, 5, true)
	popped(t, w, 4)
	popped(t, w, 10, 2, 1, 3)
	is(t, w)

	w = laid(t, timer{1, 10}, timer{1, 20})
	due(t, w, 1, 20, true)
	popped(t, w, 10)
	cleared(t, w, 1, true)
	cleared(t, w, 1, false)
	popped(t, w, 100)

	w = laid(t)
	set(t, w, -1, 5, api.ErrArg)
	set(t, w, 1, -1, api.ErrArg)
	set(t, w, 0, 0, api.OK)
	popped(t, w, -1)
	popped(t, w, 0, 0)
}
