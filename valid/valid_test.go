package valid

import (
	"math"
	"slices"
	"testing"

	"firebreak/api"
	"firebreak/code"
)

var (
	exit  = api.Ins{Op: api.OpExit}
	set   = api.Ins{Op: api.OpSet, A: 1, Imm: 5}
	send  = api.Ins{Op: api.OpSend, A: 1, B: 2, C: 3}
	recv  = api.Ins{Op: api.OpRecv, A: 1, B: 2}
	try   = api.Ins{Op: api.OpTry, A: 1, B: 2}
	sleep = api.Ins{Op: api.OpSleep, A: 1}
)

func lock(k int64) api.Ins { return api.Ins{Op: api.OpLock, Imm: k} }

func unlock(k int64) api.Ins { return api.Ins{Op: api.OpUnlock, Imm: k} }

func jump(to int64) api.Ins { return api.Ins{Op: api.OpJump, Imm: to} }

func iff(to int64) api.Ins { return api.Ins{Op: api.OpIf, A: 1, Imm: to} }

// sets is so many instructions of which nothing is to be said.
func sets(n int) []api.Ins { return slices.Repeat([]api.Ins{set}, n) }

// row puts programs one behind the other.
func row(l ...[]api.Ins) []api.Ins { return slices.Concat(l...) }

// chance makes numbers that look like chance, the same ones each time.
type chance uint64

func (c *chance) next(n int) int {
	*c = *c*6364136223846793005 + 1442695040888963407
	return int(uint64(*c>>33) % uint64(n))
}

// seat is a stand of the chapter: a place, and whether each lock is held.
type seat struct {
	place int
	has   [api.MaxLocks]bool
}

// none tells that no lock is held.
func (s seat) none() bool { return s.has == [api.MaxLocks]bool{} }

// ensuing are the stands that follow one, as the chapter's list has them.
func ensuing(l []api.Ins, s seat) []seat {
	if s.place == len(l) || l[s.place].Op == api.OpExit {
		return nil
	}
	x, on, there := l[s.place], s, s
	on.place++
	there.place = int(x.Imm)
	switch x.Op {
	case api.OpJump:
		return []seat{there}
	case api.OpIf:
		return []seat{there, on}
	case api.OpLock:
		on.has[x.Imm] = true
	case api.OpUnlock:
		on.has[x.Imm] = false
	}
	return []seat{on}
}

// astray is the error of a stand, as the chapter has it.
func astray(l []api.Ins, s seat) api.Errno {
	if s.place == len(l) {
		return api.OK
	}
	x := l[s.place]
	for k, has := range s.has {
		if x.Op == api.OpLock && has && !(int64(k) < x.Imm) {
			return api.ErrRising
		}
	}
	if x.Op == api.OpUnlock && !s.has[x.Imm] {
		return api.ErrRising
	}
	if (x.Op == api.OpSend || x.Op == api.OpRecv || x.Op == api.OpSleep) && !s.none() {
		return api.ErrHeld
	}
	return api.OK
}

// seats are the stands of a program, found round by round till there are no new ones.
func seats(l []api.Ins) map[seat]bool {
	all := map[seat]bool{{}: true}
	for fresh := []seat{{}}; len(fresh) > 0; {
		var more []seat
		for _, s := range fresh {
			if astray(l, s) != api.OK {
				continue
			}
			for _, t := range ensuing(l, s) {
				if !all[t] {
					all[t] = true
					more = append(more, t)
				}
			}
		}
		fresh = more
	}
	return all
}

// rows is how many stands the longest row of a hold has that begins at p: all the rows are made longer by one, till none can be. Once they are longer than there are stands, a stand came twice, and there is no end: -1.
func rows(l []api.Ins, p, stands int) int {
	ends := map[seat]bool{}
	for _, s := range ensuing(l, seat{place: p}) {
		ends[s] = true
	}
	for n := 1; n <= stands; n++ {
		next := map[seat]bool{}
		for s := range ends {
			for _, t := range ensuing(l, s) {
				if !t.none() {
					next[t] = true
				}
			}
		}
		if len(next) == 0 {
			return n
		}
		ends = next
	}
	return -1
}

// verdict is what the chapter says of a program.
type verdict struct {
	e     api.Errno // code.May's, or of a wrong stand
	at    int
	units map[int]int // of each hold, by its place
}

// judge tells the verdict.
func judge(l []api.Ins, locks int) verdict {
	if e, at := code.May(l, locks); e != api.OK {
		return verdict{e: e, at: at}
	}
	all := seats(l)
	for p := range l {
		for s := range all {
			if s.place == p && astray(l, s) != api.OK {
				return verdict{e: astray(l, s), at: p}
			}
		}
	}
	v := verdict{units: map[int]int{}}
	for p, x := range l {
		if x.Op == api.OpLock && all[seat{place: p}] {
			v.units[p] = rows(l, p, len(all))
		}
	}
	return v
}

// wantedLongest is P8.1 said plainly.
func wantedLongest(v verdict, n int) (int, api.Errno, int) {
	if v.e != api.OK {
		return 0, v.e, v.at
	}
	most := 0
	for p := range n {
		if v.units[p] < 0 {
			return 0, api.ErrLong, p
		}
		most = max(most, v.units[p])
	}
	return most, api.OK, 0
}

// wantedCheck is P8.2 said plainly.
func wantedCheck(v verdict, n, hold int) (api.Errno, int) {
	if hold < 0 || hold > 64 {
		return api.ErrArg, 0
	}
	if v.e != api.OK {
		return v.e, v.at
	}
	for p := range n {
		if u := v.units[p]; u < 0 || u > hold {
			return api.ErrLong, p
		}
	}
	return api.OK, 0
}

// hold looks whether both functions say of a program what the chapter says.
func hold(t *testing.T, l []api.Ins, locks int, holds ...int) {
	t.Helper()
	v := judge(l, locks)
	n, e, at := Longest(l, locks)
	if wn, we, wat := wantedLongest(v, len(l)); n != wn || e != we || at != wat {
		t.Fatalf("Longest(%v, %d): %d, %d, %d, not %d, %d, %d", l, locks, n, e, at, wn, we, wat)
	}
	for _, hold := range holds {
		e, at := Check(l, locks, hold)
		if we, wat := wantedCheck(v, len(l), hold); e != we || at != wat {
			t.Fatalf("Check(%v, %d, %d): %d, %d, not %d, %d", l, locks, hold, e, at, we, wat)
		}
	}
}

// longest looks what Longest says of a program, and that Check takes just so many units, and not one fewer.
func longest(t *testing.T, name string, l []api.Ins, locks, want int) {
	t.Helper()
	if n, e, at := Longest(l, locks); n != want || e != api.OK || at != 0 {
		t.Errorf("%s: Longest %d, %d, %d, not %d, %d, 0", name, n, e, at, want, api.OK)
	}
	if e, at := Check(l, locks, min(want, api.MaxHold)); want <= api.MaxHold && (e != api.OK || at != 0) {
		t.Errorf("%s: Check with %d: %d, %d", name, want, e, at)
	}
	if want == 0 {
		return
	}
	if e, _ := Check(l, locks, min(want-1, api.MaxHold)); e != api.ErrLong {
		t.Errorf("%s: Check with one fewer than %d: %d, not %d", name, want, e, api.ErrLong)
	}
}

// refused looks that both functions refuse a program, with that error and place.
func refused(t *testing.T, name string, l []api.Ins, locks int, want api.Errno, place int) {
	t.Helper()
	if n, e, at := Longest(l, locks); n != 0 || e != want || at != place {
		t.Errorf("%s: Longest %d, %d, %d, not 0, %d, %d", name, n, e, at, want, place)
	}
	if e, at := Check(l, locks, api.MaxHold); e != want || at != place {
		t.Errorf("%s: Check %d, %d, not %d, %d", name, e, at, want, place)
	}
}

// The chapter's examples.

func TestExamplesLongest(t *testing.T) {
	for _, c := range []struct {
		name string
		l    []api.Ins
		want int
	}{
		{"L0 U0 Exit", []api.Ins{lock(0), unlock(0), exit}, 1},
		{"L0 L1 U1 U0 Exit", []api.Ins{lock(0), lock(1), unlock(1), unlock(0), exit}, 3},
		{"L0 Exit", []api.Ins{lock(0), exit}, 1},
		{"L0", []api.Ins{lock(0)}, 1},
		{"Set A 0 Imm 1, Jump 0", []api.Ins{{Op: api.OpSet, Imm: 1}, jump(0)}, 0},
		{"L0 Try U0 J0", []api.Ins{lock(0), try, unlock(0), jump(0)}, 2},
	} {
		longest(t, c.name, c.l, 2, c.want)
	}
}

func TestExamplesRefused(t *testing.T) {
	for _, c := range []struct {
		name string
		l    []api.Ins
		e    api.Errno
		at   int
	}{
		{"L1 L0", []api.Ins{lock(1), lock(0)}, api.ErrRising, 1},
		{"U0", []api.Ins{unlock(0)}, api.ErrRising, 0},
		{"L0 L0", []api.Ins{lock(0), lock(0)}, api.ErrRising, 1},
		{"L0 U0 U0", []api.Ins{lock(0), unlock(0), unlock(0)}, api.ErrRising, 2},
		{"L0 Recv", []api.Ins{lock(0), recv}, api.ErrHeld, 1},
		{"L0 Send", []api.Ins{lock(0), send}, api.ErrHeld, 1},
		{"L0 J0", []api.Ins{lock(0), jump(0)}, api.ErrRising, 0},
		{"L0, Set, Jump 1", []api.Ins{lock(0), set, jump(1)}, api.ErrLong, 0},
		{"If 2, L0, U0", []api.Ins{iff(2), lock(0), unlock(0)}, api.ErrRising, 2},
	} {
		refused(t, c.name, c.l, 2, c.e, c.at)
	}
}

func TestExamplesCheck(t *testing.T) {
	l := []api.Ins{lock(0), lock(1), unlock(1), unlock(0), exit}
	for _, c := range []struct {
		hold int
		e    api.Errno
	}{{3, api.OK}, {2, api.ErrLong}, {65, api.ErrArg}} {
		if e, at := Check(l, 2, c.hold); e != c.e || at != 0 {
			t.Errorf("Check with hold %d: %d, %d, not %d, 0", c.hold, e, at, c.e)
		}
	}
}

// P8.1

func TestLongest(t *testing.T) {
	for _, c := range []struct {
		name string
		l    []api.Ins
		want int
	}{
		{"no instruction", nil, 0},
		{"no instruction, but a list", []api.Ins{}, 0},
		{"no lock", []api.Ins{recv, send, sleep, try, jump(0)}, 0},
		{"a lock that is never come to", []api.Ins{exit, lock(0), jump(1)}, 0},
		{"wrong ones that are never come to", []api.Ins{jump(5), unlock(0), lock(1), lock(0), recv}, 0},
		{"a jump behind the last one", []api.Ins{jump(1)}, 0},
		{"a hold that jumps behind the last one", []api.Ins{lock(0), jump(3), set}, 2},
		{"a hold that ends by the program's end", []api.Ins{lock(0), set}, 2},
		{"a hold that ends by Exit", []api.Ins{lock(0), set, exit, set, set}, 2},
		{"a hold that ends by Unlock", []api.Ins{lock(0), set, unlock(0), set, set}, 2},
		{"a hold of one unit by Exit", []api.Ins{lock(7), exit}, 1},
		{"an If whose ways meet", []api.Ins{lock(0), iff(2), unlock(0)}, 2},
		{"an If, the longer way goes on", []api.Ins{lock(0), iff(4), set, set, unlock(0)}, 4},
		{"an If, the longer way jumps", []api.Ins{lock(0), iff(3), exit, set, set, unlock(0)}, 4},
		{"an If that jumps behind the last one", []api.Ins{lock(0), iff(4), unlock(0), set}, 2},
		{"an If ahead of the lock", []api.Ins{iff(3), lock(0), unlock(0), lock(1), set, unlock(1)}, 2},
		{"locks kept on one way alone", []api.Ins{lock(0), iff(3), lock(1), set, set}, 5},
		{"given in the order of taking", []api.Ins{lock(0), lock(1), lock(2), unlock(0), unlock(1), set, unlock(2)}, 6},
		{"taken again behind a higher one that was given", []api.Ins{lock(0), lock(3), unlock(3), lock(1), unlock(1), unlock(0)}, 5},
		{"below one that was given", []api.Ins{lock(3), unlock(3), lock(0), unlock(0)}, 1},
		{"a loop without a lock, holds in it", []api.Ins{recv, lock(0), set, unlock(0), sleep, jump(0)}, 2},
		{"the last hold is the longest", []api.Ins{lock(0), unlock(0), lock(1), set, set, unlock(1)}, 3},
		{"the first hold is the longest", []api.Ins{lock(0), set, set, unlock(0), lock(1), unlock(1)}, 3},
		{"two holds with one end", []api.Ins{iff(4), lock(0), set, jump(5), lock(0), set, set, unlock(0)}, 5},
		{"a hold that jumps back over what comes ahead of it", []api.Ins{jump(4), set, unlock(2), exit, lock(2), jump(1)}, 3},
		{"what other instructions have in Imm is no lock", []api.Ins{{Op: api.OpSet, Imm: -1}, lock(0), {Op: api.OpSet, Imm: math.MaxInt64}, unlock(0)}, 2},
	} {
		longest(t, c.name, c.l, 8, c.want)
		hold(t, c.l, 8, -1, 0, 1, 2, 3, 4, 5, 6, 63, 64, 65)
	}
}

func TestLongestOthersWait(t *testing.T) {
	for op := range api.Ops {
		x := api.Ins{Op: op}
		l := []api.Ins{lock(0), x, unlock(0)}
		switch op {
		case api.OpExit:
			longest(t, "Exit", l, 1, 1)
		case api.OpJump:
			refused(t, "Jump", l, 1, api.ErrRising, 0)
		case api.OpIf:
			refused(t, "If", l, 1, api.ErrRising, 0)
		case api.OpLock:
			refused(t, "Lock", l, 1, api.ErrRising, 1)
		case api.OpUnlock:
			refused(t, "Unlock", l, 1, api.ErrRising, 2)
		case api.OpSend, api.OpRecv, api.OpSleep:
			refused(t, "Send, Recv, Sleep", l, 1, api.ErrHeld, 1)
			longest(t, "Send, Recv, Sleep ahead and behind", []api.Ins{x, lock(0), unlock(0), x}, 1, 1)
		default:
			longest(t, "an instruction that doesn't wait", l, 1, 2)
		}
	}
}

func TestLongestEachLock(t *testing.T) {
	for a := range int64(api.MaxLocks) {
		for b := range int64(api.MaxLocks) {
			l := []api.Ins{lock(a), lock(b), exit}
			if a < b {
				longest(t, "rising", l, 8, 2)
			} else {
				refused(t, "not rising", l, 8, api.ErrRising, 1)
			}
			l = []api.Ins{lock(a), unlock(b), exit}
			if a == b {
				longest(t, "what is held is given", l, 8, 1)
			} else {
				refused(t, "what is not held is given", l, 8, api.ErrRising, 1)
			}
			for c := range int64(api.MaxLocks) {
				hold(t, []api.Ins{lock(a), lock(b), unlock(a), lock(c), unlock(b), unlock(c)}, 8, 3, 4, 5)
				hold(t, []api.Ins{lock(a), lock(b), lock(c), unlock(c), unlock(b), recv}, 8, 3, 4, 5)
			}
		}
	}
}

func TestLongestAllLocks(t *testing.T) {
	var l []api.Ins
	for k := range int64(api.MaxLocks) {
		l = append(l, lock(k))
	}
	for k := range int64(api.MaxLocks) {
		l = append(l, unlock(k))
	}
	longest(t, "all of them", l, 8, 15)
	refused(t, "all of them, on seven", l, 7, api.ErrLock, 7)
	refused(t, "all of them, a wait ahead of the last one's end", row(l[:15], []api.Ins{sleep}), 8, api.ErrHeld, 15)
	longest(t, "all of them, a wait behind it", row(l, []api.Ins{sleep}), 8, 15)
}

func TestLongestManyInstructions(t *testing.T) {
	long := row([]api.Ins{lock(0)}, sets(255))
	longest(t, "as many as may be, all in a hold", long, 1, 256)
	refused(t, "one more", row(long, sets(1)), 1, api.ErrMany, 256)
	refused(t, "wrong, and one more", row([]api.Ins{unlock(0)}, sets(256)), 1, api.ErrMany, 256)
	longest(t, "the last instruction is the lock", row(sets(255), []api.Ins{lock(0)}), 1, 1)
	refused(t, "a wait as the last one", row([]api.Ins{lock(0)}, sets(254), []api.Ins{recv}), 1, api.ErrHeld, 255)
	refused(t, "a loop at the end", row([]api.Ins{lock(0)}, sets(254), []api.Ins{jump(1)}), 1, api.ErrLong, 0)
	longest(t, "a jump to the end", row(sets(254), []api.Ins{lock(0), jump(256)}), 1, 2)
	refused(t, "a jump beyond it", row(sets(254), []api.Ins{lock(0), jump(257)}), 1, api.ErrJump, 255)
}

func TestLongestManySets(t *testing.T) {
	var l []api.Ins
	for k := range int64(api.MaxLocks) {
		l = append(l, iff(int64(len(l)+2)), lock(k))
	}
	longest(t, "each lock or not", row(l, sets(240)), 8, 255)
	refused(t, "each lock or not, then a loop", row(l, sets(239), []api.Ins{jump(16)}), 8, api.ErrLong, 1)
	refused(t, "each lock or not, then a wait", row(l, sets(239), []api.Ins{recv}), 8, api.ErrHeld, 255)
	refused(t, "each lock or not, then one is given", row(l, sets(239), []api.Ins{unlock(7)}), 8, api.ErrRising, 255)
}

func TestLongestMay(t *testing.T) {
	for _, c := range []struct {
		name  string
		l     []api.Ins
		locks int
		e     api.Errno
		at    int
	}{
		{"locks below 0", nil, -1, api.ErrArg, 0},
		{"nine locks", []api.Ins{unlock(0)}, 9, api.ErrArg, 0},
		{"the least number of locks", nil, math.MinInt, api.ErrArg, 0},
		{"the greatest number of locks", nil, math.MaxInt, api.ErrArg, 0},
		{"too many, and locks that may not be", make([]api.Ins, 257), -1, api.ErrArg, 0},
		{"no instruction of that number", []api.Ins{unlock(0), {Op: api.Ops}}, 1, api.ErrOp, 1},
		{"one below 0, never come to", []api.Ins{exit, {Op: -1}}, 1, api.ErrOp, 1},
		{"no such register", []api.Ins{unlock(0), {Op: api.OpSet, A: 8}}, 1, api.ErrReg, 1},
		{"a field that isn't there", []api.Ins{unlock(0), {Op: api.OpLock, A: 1}}, 1, api.ErrUnused, 1},
		{"a jump to nowhere", []api.Ins{unlock(0), jump(3)}, 1, api.ErrJump, 1},
		{"a jump to below 0", []api.Ins{unlock(0), iff(-1)}, 1, api.ErrJump, 1},
		{"no lock on a machine without", []api.Ins{lock(0)}, 0, api.ErrLock, 0},
		{"a lock behind the last one", []api.Ins{lock(0), unlock(2)}, 2, api.ErrLock, 1},
		{"a lock below 0", []api.Ins{lock(-1)}, 8, api.ErrLock, 0},
		{"the greatest lock", []api.Ins{lock(math.MaxInt64)}, 8, api.ErrLock, 0},
		{"the least lock", []api.Ins{unlock(math.MinInt64)}, 8, api.ErrLock, 0},
	} {
		refused(t, c.name, c.l, c.locks, c.e, c.at)
	}
	for locks := range api.MaxLocks + 1 {
		longest(t, "any number of locks that may be", []api.Ins{set, recv}, locks, 0)
		if locks > 0 {
			longest(t, "the last lock", []api.Ins{lock(int64(locks) - 1), exit}, locks, 1)
		}
		refused(t, "the one behind it", []api.Ins{lock(int64(locks)), exit}, locks, api.ErrLock, 0)
	}
}

func TestLongestLeastWrong(t *testing.T) {
	for _, c := range []struct {
		name string
		l    []api.Ins
		e    api.Errno
		at   int
	}{
		{"the jumped one is less", []api.Ins{jump(3), recv, exit, iff(5), unlock(0), lock(0), jump(1)}, api.ErrHeld, 1},
		{"the near one is less", []api.Ins{iff(3), unlock(0), exit, lock(0), recv}, api.ErrRising, 1},
		{"the far one is less", []api.Ins{lock(1), iff(3), sleep, lock(0)}, api.ErrHeld, 2},
		{"three of them", []api.Ins{lock(1), iff(4), iff(5), unlock(0), send, lock(1)}, api.ErrRising, 3},
		{"none follows a wrong one", []api.Ins{jump(2), recv, unlock(0), lock(0), jump(1)}, api.ErrRising, 2},
		{"behind a wrong wait", []api.Ins{lock(0), jump(3), unlock(1), sleep, jump(2)}, api.ErrHeld, 3},
		{"a wrong one goes ahead of a hold without an end", []api.Ins{lock(0), iff(1), unlock(1)}, api.ErrRising, 2},
		{"a place wrong by one way of two", []api.Ins{iff(2), lock(0), recv}, api.ErrHeld, 2},
		{"a place wrong at the second time", []api.Ins{set, lock(0), iff(0), unlock(0)}, api.ErrRising, 1},
	} {
		refused(t, c.name, c.l, 2, c.e, c.at)
		hold(t, c.l, 2, 0, 1, 64)
	}
}

func TestLongestNoEnd(t *testing.T) {
	for _, c := range []struct {
		name string
		l    []api.Ins
		at   int
	}{
		{"a jump to itself", []api.Ins{lock(0), jump(1)}, 0},
		{"an If to itself", []api.Ins{lock(0), iff(1), unlock(0)}, 0},
		{"an If that may leave", []api.Ins{lock(0), set, iff(4), jump(1), unlock(0)}, 0},
		{"a loop that takes and gives another one", []api.Ins{lock(0), lock(1), unlock(1), iff(1), unlock(0)}, 0},
		{"the second hold", []api.Ins{lock(0), unlock(0), set, lock(1), jump(4)}, 3},
		{"both holds", []api.Ins{iff(3), lock(0), jump(2), lock(1), jump(4)}, 1},
		{"a loop far behind", []api.Ins{lock(0), iff(5), unlock(0), exit, set, set, set, jump(5)}, 0},
		{"two holds into one loop", []api.Ins{iff(3), lock(0), jump(4), lock(0), set, jump(4)}, 1},
		{"the hold at the greater place is come to first", []api.Ins{jump(4), set, lock(0), jump(6), iff(2), lock(0), jump(6)}, 2},
		{"a loop between ways that end", []api.Ins{lock(0), iff(4), iff(1), exit, iff(2), exit}, 0},
		{"the other of two locks is given in the loop's way", []api.Ins{lock(0), lock(1), unlock(0), jump(3)}, 0},
	} {
		refused(t, c.name, c.l, 2, api.ErrLong, c.at)
		hold(t, c.l, 2, 0, 1, 64)
	}
}

// P8.2

func TestCheckHold(t *testing.T) {
	for _, l := range [][]api.Ins{nil, {lock(0), exit}, {unlock(0)}, {{Op: -1}}, make([]api.Ins, 257)} {
		for _, h := range []int{-1, -2, 65, 66, 256, 1 << 32, math.MaxInt, math.MinInt} {
			for _, locks := range []int{-1, 0, 1, 9} {
				if e, at := Check(l, locks, h); e != api.ErrArg || at != 0 {
					t.Errorf("Check(%v, %d, %d): %d, %d, not %d, 0", l, locks, h, e, at, api.ErrArg)
				}
			}
		}
	}
	for h := range api.MaxHold + 1 {
		if e, at := Check([]api.Ins{recv, jump(0)}, 0, h); e != api.OK || at != 0 {
			t.Errorf("Check without locks, hold %d: %d, %d", h, e, at)
		}
		if e, at := Check([]api.Ins{set, unlock(0)}, 1, h); e != api.ErrRising || at != 1 {
			t.Errorf("Check of a wrong one, hold %d: %d, %d", h, e, at)
		}
	}
}

func TestCheckJustSoMany(t *testing.T) {
	ends := map[string][]api.Ins{"Unlock": {unlock(0), recv}, "Exit": {exit, set}, "the program's end": nil}
	for name, end := range ends {
		for units := 1; units <= 70; units++ {
			l := row([]api.Ins{set, lock(0)}, sets(units-1), end)
			for h := range api.MaxHold + 1 {
				want, place := api.OK, 0
				if units > h {
					want, place = api.ErrLong, 1
				}
				if e, at := Check(l, 1, h); e != want || at != place {
					t.Errorf("%d units by %s, hold %d: %d, %d, not %d, %d", units, name, h, e, at, want, place)
				}
			}
		}
	}
}

func TestCheckLeastPlace(t *testing.T) {
	l := row([]api.Ins{lock(0), set, unlock(0)}, []api.Ins{lock(0), set, set, unlock(0)}, []api.Ins{lock(1), jump(8)})
	for h, want := range []int{0, 0, 3, 7, 7} {
		if e, at := Check(l, 2, h); e != api.ErrLong || at != want {
			t.Errorf("hold %d: %d, %d, not %d, %d", h, e, at, api.ErrLong, want)
		}
	}
	back := []api.Ins{jump(4), lock(1), set, exit, lock(0), set, unlock(0), jump(1)}
	for h, want := range []int{1, 1} {
		if e, at := Check(back, 2, h); e != api.ErrLong || at != want {
			t.Errorf("the lesser one is come to later, hold %d: %d, %d, not %d, %d", h, e, at, api.ErrLong, want)
		}
	}
	endless := []api.Ins{iff(3), lock(0), jump(2), lock(1), set, unlock(1)}
	if e, at := Check(endless, 2, 1); e != api.ErrLong || at != 1 {
		t.Errorf("without an end ahead of one too long: %d, %d", e, at)
	}
}

// P8.1 and P8.2 against the chapter said plainly.

// alphabet is what a small program may be made of.
func alphabet(n int64) []api.Ins {
	all := []api.Ins{exit, set, recv, lock(0), lock(1), unlock(0), unlock(1)}
	for to := range n + 1 {
		all = append(all, jump(to), iff(to))
	}
	return all
}

// spell tells the number's program of n instructions; false behind the last one.
func spell(number, n int) ([]api.Ins, bool) {
	all := alphabet(int64(n))
	l := make([]api.Ins, n)
	for i := range l {
		l[i] = all[number%len(all)]
		number /= len(all)
	}
	return l, number == 0
}

func TestAllSmallPrograms(t *testing.T) {
	for n := range 4 {
		for number := 0; ; number++ {
			l, ok := spell(number, n)
			if !ok {
				break
			}
			hold(t, l, 2, 0, 1, 2, 3)
		}
	}
}

// pick is an instruction, more often a lock or a jump than others; a way ahead is more likely than one back.
func (c *chance) pick(place, n, locks int) api.Ins {
	k := int64(c.next(locks))
	to := min(place+c.next(4), n)
	if c.next(6) == 0 {
		to = c.next(n + 1)
	}
	switch c.next(12) {
	case 0, 1:
		return lock(k)
	case 2, 3, 4:
		return unlock(k)
	case 5:
		return jump(int64(to))
	case 6, 7:
		return iff(int64(to))
	case 8:
		return []api.Ins{exit, send, recv, sleep}[c.next(4)]
	case 9:
		return try
	default:
		return set
	}
}

// program makes one by chance; half of them are mended at places that are wrong, so that many are right at last.
func (c *chance) program(n, locks int) []api.Ins {
	l := make([]api.Ins, n)
	for i := range l {
		l[i] = c.pick(i, n, locks)
	}
	for mends := c.next(2) * 4 * n; mends > 0; mends-- {
		v := judge(l, locks)
		if v.e == api.OK {
			break
		}
		l[v.at] = c.pick(v.at, n, locks)
	}
	return l
}

func TestProgramsByChance(t *testing.T) {
	c := chance(8)
	right, ends := 0, 0
	for range 12000 {
		locks := 1 + c.next(8)
		l := c.program(c.next(14), locks)
		hold(t, l, locks, c.next(3), 3+c.next(8), 64)
		if n, e, _ := Longest(l, locks); e == api.OK && n > 1 {
			right++
		} else if e == api.ErrLong {
			ends++
		}
	}
	if right < 1000 || ends < 200 {
		t.Errorf("of the programs made by chance only %d were right, and %d without an end", right, ends)
	}
}

// P8.3

// drive runs a program whose ifs go as chance has it, and looks at each unit; false, where it does what it may not.
func drive(l []api.Ins, hold, units int, c *chance) bool {
	held, since, pc := map[int64]bool{}, 0, 0
	for range units {
		if len(held) > 0 {
			since++
		}
		if since > hold {
			return false
		}
		if pc == len(l) || l[pc].Op == api.OpExit {
			return true
		}
		x := l[pc]
		pc++
		switch x.Op {
		case api.OpJump:
			pc = int(x.Imm)
		case api.OpIf:
			if c.next(2) == 1 {
				pc = int(x.Imm)
			}
		case api.OpSend, api.OpRecv, api.OpSleep:
			if len(held) > 0 {
				return false
			}
		case api.OpLock:
			for k := range held {
				if k >= x.Imm {
					return false
				}
			}
			held[x.Imm] = true
		case api.OpUnlock:
			delete(held, x.Imm)
		}
		if len(held) == 0 {
			since = 0
		}
	}
	return true
}

func TestWhoeverRuns(t *testing.T) {
	c := chance(83)
	took := 0
	for range 6000 {
		locks := 1 + c.next(4)
		l := c.program(1+c.next(20), locks)
		h := c.next(9)
		if e, _ := Check(l, locks, h); e != api.OK {
			continue
		}
		took++
		for range 20 {
			if !drive(l, h, 200, &c) {
				t.Fatalf("Check(%v, %d, %d) is OK, but a run does what it may not", l, locks, h)
			}
		}
	}
	if took < 500 {
		t.Errorf("of the programs made by chance only %d were taken", took)
	}
}

func TestWhoeverRunsTheLongest(t *testing.T) {
	c := chance(84)
	for _, l := range [][]api.Ins{
		{lock(0), iff(4), set, set, unlock(0), recv, jump(0)},
		{lock(0), lock(1), iff(4), set, unlock(1), unlock(0), jump(0)},
		{iff(3), lock(0), iff(6), lock(1), set, set, set, exit},
	} {
		n, e, _ := Longest(l, 2)
		if e != api.OK {
			t.Fatalf("Longest(%v): %d", l, e)
		}
		long := false
		for range 200 {
			long = long || !drive(l, n-1, 100, &c)
		}
		if !long {
			t.Errorf("Longest(%v): %d, but no run holds so long", l, n)
		}
	}
}

// P8.4: R3 and R4.

func TestMemory(t *testing.T) {
	c := chance(4)
	for range 300 {
		locks := 1 + c.next(8)
		whole := row(c.program(c.next(20), locks), []api.Ins{lock(0), jump(0), {Op: 77, A: 7, B: 7, C: 7, Imm: 7}})
		kept := slices.Clone(whole)
		l := whole[:len(whole)-3]
		n, e, at := Longest(l, locks)
		e2, at2 := Check(l, locks, 5)
		if !slices.Equal(whole, kept) {
			t.Fatalf("%v was changed to %v", kept, whole)
		}
		bare := slices.Clip(slices.Clone(l))
		Longest([]api.Ins{lock(0), set, jump(1)}, 1)
		if n3, e3, at3 := Longest(bare, locks); n3 != n || e3 != e || at3 != at {
			t.Fatalf("Longest(%v, %d) again: %d, %d, %d, not %d, %d, %d", l, locks, n3, e3, at3, n, e, at)
		}
		if e3, at3 := Check(bare, locks, 5); e3 != e2 || at3 != at2 {
			t.Fatalf("Check(%v, %d, 5) again: %d, %d, not %d, %d", l, locks, e3, at3, e2, at2)
		}
	}
}
