package slots

import (
	"math"
	"math/big"
	"slices"
	"testing"

	"firebreak/api"
)

const (
	top     = 1 << 62
	longest = math.MaxInt64
)

// nobody are numbers that are no partition's in any table.
var nobody = []int{-1, -2, -8, math.MinInt, api.MaxParts, api.MaxParts + 1, 64, 1 << 32, math.MaxInt}

// tables are some that may be: all of up to five entries of three partitions, and the edges.
func tables() [][]int {
	list := [][]int{{0, 1, 0, 0, 2}, {7}, {7, 0}, {0, 1, 2, 3, 4, 5, 6, 7}, {3, 3, 3, 1, 3, 3}}
	for k, all := 1, 3; k <= 5; k, all = k+1, all*3 {
		for m := range all {
			l := make([]int, k)
			for i := range l {
				l[i] = m % 3
				m /= 3
			}
			list = append(list, l)
		}
	}
	full := make([]int, api.MaxTable)
	list = append(list, slices.Clone(full))
	full[63] = 1
	list = append(list, slices.Clone(full))
	full[0], full[31] = 1, 2
	list = append(list, slices.Clone(full))
	for i := range full {
		full[i] = i * i % 7
	}
	return append(list, full, full[:63], full[:61])
}

func made(t *testing.T, table []int, parts int) *Slots {
	t.Helper()
	s, e, at := New(table, parts)
	if s == nil || e != api.OK || at != 0 {
		t.Fatalf("New(%v, %d): %v, %d at %d", table, parts, s, e, at)
	}
	return s
}

// each calls f for each of the tables.
func each(t *testing.T, f func(table []int, s *Slots)) {
	t.Helper()
	for _, table := range tables() {
		f(table, made(t, table, api.MaxParts))
	}
}

// owners lays a table so often behind itself that there are n ticks.
func owners(table []int, n int) []int {
	var list []int
	for len(list) < n {
		list = append(list, table...)
	}
	return list[:n]
}

// slotsOf tells by single ticks which of the first n are a partition's.
func slotsOf(table []int, part, n int) []int64 {
	var list []int64
	for i, owner := range owners(table, n) {
		if owner == part {
			list = append(list, int64(i))
		}
	}
	return list
}

// within counts the ticks of a list from one on and ahead of another.
func within(list []int64, from, to int64) int64 {
	var n int64
	for _, x := range list {
		if x >= from && x < to {
			n++
		}
	}
	return n
}

func TestErrorsAndLimitsThatComeHere(t *testing.T) {
	if api.OK != 0 || api.ErrArg != 1 || api.ErrRange != 2 || api.ErrMany != 3 || api.ErrAbsent != 17 {
		t.Error("the numbers of the errors")
	}
	if api.MaxParts != 8 || api.MaxTable != 64 {
		t.Error("the limits of partitions and of the table")
	}
}

// P3.1

func TestNewOfWhatMayNotBe(t *testing.T) {
	wrong := make([]int, 65)
	wrong[2] = 9
	lastWrong := make([]int, 64)
	lastWrong[63] = 8
	for _, c := range []struct {
		table []int
		parts int
		e     api.Errno
		at    int
	}{
		{nil, 1, api.ErrArg, 0}, {[]int{}, 8, api.ErrArg, 0}, {make([]int, 0, 9), 1, api.ErrArg, 0},
		{[]int{0}, 0, api.ErrArg, 0}, {[]int{0}, -1, api.ErrArg, 0}, {[]int{0}, 9, api.ErrArg, 0},
		{[]int{0}, math.MinInt, api.ErrArg, 0}, {[]int{0}, math.MaxInt, api.ErrArg, 0},
		// ErrArg is ahead of both others
		{nil, 0, api.ErrArg, 0}, {make([]int, 65), 0, api.ErrArg, 0}, {wrong, 9, api.ErrArg, 0}, {[]int{0, 5}, 0, api.ErrArg, 0},
		{make([]int, 65), 1, api.ErrMany, 64}, {make([]int, 66), 8, api.ErrMany, 64}, {make([]int, 5000), 8, api.ErrMany, 64},
		// ErrMany is ahead of an entry that may not be
		{wrong, 8, api.ErrMany, 64},
		{wrong[:64], 8, api.ErrRange, 2}, {lastWrong, 8, api.ErrRange, 63},
		{[]int{0, 1, 2}, 2, api.ErrRange, 2}, {[]int{1}, 1, api.ErrRange, 0}, {[]int{8}, 8, api.ErrRange, 0},
		{[]int{0, -1}, 2, api.ErrRange, 1}, {[]int{-1, 5}, 2, api.ErrRange, 0}, {[]int{0, 2, -1, 3}, 2, api.ErrRange, 1},
		{[]int{0, math.MinInt}, 8, api.ErrRange, 1}, {[]int{0, 0, math.MaxInt}, 8, api.ErrRange, 2}, {[]int{0, 1 << 32}, 8, api.ErrRange, 1},
	} {
		if s, e, at := New(c.table, c.parts); s != nil || e != c.e || at != c.at {
			t.Errorf("New(%v, %d): %v, %d at %d, not %d at %d", c.table, c.parts, s, e, at, c.e, c.at)
		}
	}
}

func TestNewOfEveryNumberOfPartitions(t *testing.T) {
	for parts := 1; parts <= 8; parts++ {
		made(t, []int{parts - 1, 0}, parts)
		if s, e, at := New([]int{0, parts}, parts); s != nil || e != api.ErrRange || at != 1 {
			t.Errorf("New of the entry %d: %v, %d at %d", parts, s, e, at)
		}
	}
}

func TestLen(t *testing.T) {
	for n := 1; n <= 64; n++ {
		if got := made(t, make([]int, n), 1).Len(); got != n {
			t.Errorf("Len of %d entries: %d", n, got)
		}
	}
	each(t, func(table []int, s *Slots) {
		if got := s.Len(); got != len(table) {
			t.Errorf("%v: Len: %d", table, got)
		}
	})
}

// P3.2

func TestOwner(t *testing.T) {
	each(t, func(table []int, s *Slots) {
		for i, want := range owners(table, 200) {
			if got := s.Owner(int64(i)); got != want {
				t.Errorf("%v: Owner(%d): %d, not %d", table, i, got, want)
			}
		}
	})
}

func TestOwnerOfLateTicks(t *testing.T) {
	each(t, func(table []int, s *Slots) {
		k := big.NewInt(int64(len(table)))
		for _, from := range []int64{1<<31 - 2, 1<<32 - 2, top - 70, longest - 140} {
			for x := from; x < from+140; x++ {
				at := new(big.Int).Mod(big.NewInt(x), k).Int64()
				if got := s.Owner(x); got != table[at] {
					t.Errorf("%v: Owner(%d): %d, not %d", table, x, got, table[at])
				}
			}
		}
		if got := s.Owner(longest); got != table[longest%len(table)] {
			t.Errorf("%v: Owner of the last tick: %d", table, got)
		}
	})
}

func TestOwnerAheadOfTheFirstTick(t *testing.T) {
	each(t, func(table []int, s *Slots) {
		for _, x := range []int64{-1, -2, -5, -64, -65, -1 << 32, math.MinInt64 + 1, math.MinInt64} {
			if got := s.Owner(x); got != -1 {
				t.Errorf("%v: Owner(%d): %d", table, x, got)
			}
		}
	})
}

// P3.3

// gap tries all g, and of each all beginnings of more than a round.
func gap(table []int, part int) int {
	list := owners(table, 4*len(table))
	for g := 1; g <= len(table); g++ {
		enough := true
		for from := 0; from < 2*len(table); from++ {
			enough = enough && slices.Contains(list[from:from+g], part)
		}
		if enough {
			return g
		}
	}
	return 0
}

func TestGap(t *testing.T) {
	each(t, func(table []int, s *Slots) {
		for part := range api.MaxParts {
			if got, want := s.Gap(part), gap(table, part); got != want {
				t.Errorf("%v: Gap(%d): %d, not %d", table, part, got, want)
			}
		}
	})
}

func TestGapAtItsEdges(t *testing.T) {
	once := make([]int, 64)
	once[40] = 1
	twice := slices.Clone(once)
	twice[41] = 1
	for _, c := range []struct {
		table      []int
		part, want int
	}{
		{[]int{0}, 0, 1}, {[]int{0}, 1, 0}, {make([]int, 64), 0, 1}, {make([]int, 64), 7, 0},
		{once, 1, 64}, {once, 0, 2}, {twice, 1, 63}, {twice, 0, 3},
		// round the end, and ahead of the first slot
		{[]int{0, 0, 1, 1, 0}, 1, 4}, {[]int{1, 0, 0, 1}, 0, 3}, {[]int{0, 0, 1}, 1, 3}, {[]int{1, 0, 0}, 1, 3},
	} {
		if got := made(t, c.table, 8).Gap(c.part); got != c.want {
			t.Errorf("%v: Gap(%d): %d, not %d", c.table, c.part, got, c.want)
		}
	}
}

func TestGapOfNobody(t *testing.T) {
	each(t, func(table []int, s *Slots) {
		for _, part := range nobody {
			if got := s.Gap(part); got != 0 {
				t.Errorf("%v: Gap(%d): %d", table, part, got)
			}
		}
	})
	// A partition that is none in these slots, but would be in others.
	if got := made(t, []int{0, 1}, 2).Gap(2); got != 0 {
		t.Errorf("Gap of a partition behind the last one: %d", got)
	}
}

// P3.4

func TestCount(t *testing.T) {
	each(t, func(table []int, s *Slots) {
		for part := range 4 {
			list := slotsOf(table, part, 150)
			for from := int64(-3); from <= 140; from += 1 + from&1*6 {
				for to := int64(-3); to <= 150; to += 1 + to&1*4 {
					if got, want := s.Count(part, from, to), within(list, from, to); got != want {
						t.Fatalf("%v: Count(%d, %d, %d): %d, not %d", table, part, from, to, got, want)
					}
				}
			}
		}
	})
}

// countedBig tells by big numbers how many slots there are ahead of a tick.
func countedBig(table []int, part int, to int64) *big.Int {
	rounds, rest := new(big.Int).DivMod(big.NewInt(to), big.NewInt(int64(len(table))), new(big.Int))
	n := rounds.Mul(rounds, big.NewInt(int64(len(slotsOf(table, part, len(table))))))
	return n.Add(n, big.NewInt(int64(len(slotsOf(table, part, int(rest.Int64()))))))
}

func TestCountOfManyTicks(t *testing.T) {
	late := []int64{0, 1, 63, 64, 1<<31 + 1, 1<<32 + 5, 5 << 50, top - 1, top, top + 1, longest - 65, longest - 1, longest}
	each(t, func(table []int, s *Slots) {
		for part := range 4 {
			for i, from := range late {
				for _, to := range late[i:] {
					want := new(big.Int).Sub(countedBig(table, part, to), countedBig(table, part, from))
					if got := s.Count(part, from, to); big.NewInt(got).Cmp(want) != 0 {
						t.Fatalf("%v: Count(%d, %d, %d): %d, not %v", table, part, from, to, got, want)
					}
				}
			}
		}
	})
}

func TestCountOfAllTicksOfOne(t *testing.T) {
	for _, n := range []int{1, 2, 63, 64} {
		s := made(t, make([]int, n), 1)
		for _, from := range []int64{0, -1, math.MinInt64} {
			if got := s.Count(0, from, longest); got != longest {
				t.Errorf("%d entries: Count(0, %d, 2^63 - 1): %d", n, from, got)
			}
		}
	}
}

func TestCountOfNoTicks(t *testing.T) {
	each(t, func(table []int, s *Slots) {
		for _, c := range [][2]int64{
			{0, 0}, {5, 5}, {9, 2}, {longest, longest}, {longest, 0}, {longest, math.MinInt64},
			{-7, -2}, {-7, 0}, {-1, 0}, {-2, -7}, {math.MinInt64, 0}, {math.MinInt64, -1}, {math.MinInt64, math.MinInt64}, {0, math.MinInt64},
		} {
			for _, part := range append([]int{0, 1, 2, 7}, nobody...) {
				if got := s.Count(part, c[0], c[1]); got != 0 {
					t.Errorf("%v: Count(%d, %d, %d): %d", table, part, c[0], c[1], got)
				}
			}
		}
	})
}

func TestCountOfNobody(t *testing.T) {
	each(t, func(table []int, s *Slots) {
		for _, part := range nobody {
			for _, c := range [][2]int64{{0, 99}, {-99, 99}, {3, 4}, {math.MinInt64, longest}} {
				if got := s.Count(part, c[0], c[1]); got != 0 {
					t.Errorf("%v: Count(%d, %d, %d): %d", table, part, c[0], c[1], got)
				}
			}
		}
	})
}

func TestNth(t *testing.T) {
	each(t, func(table []int, s *Slots) {
		for part := range 4 {
			list := slotsOf(table, part, 900)
			if len(list) == 0 {
				continue
			}
			for from := range int64(130) {
				first := within(list, 0, from)
				for n := range int64(11) {
					want := list[first+n]
					if got, e := s.Nth(part, from, n); got != want || e != api.OK {
						t.Fatalf("%v: Nth(%d, %d, %d): %d, %d, not %d", table, part, from, n, got, e, want)
					}
				}
			}
		}
	})
}

func TestNthOfWhatMayNotBe(t *testing.T) {
	each(t, func(table []int, s *Slots) {
		low := []int64{-1, -2, -64, math.MinInt64}
		high := []int64{0, 1, top, top + 1, longest}
		// ErrArg is ahead of both others: partitions that stand nowhere, and answers above 2^62.
		for _, part := range append([]int{0, 1, 2, 7}, nobody...) {
			for _, a := range low {
				for _, b := range append(high, low...) {
					if got, e := s.Nth(part, a, b); got != 0 || e != api.ErrArg {
						t.Errorf("%v: Nth(%d, %d, %d): %d, %d", table, part, a, b, got, e)
					}
					if got, e := s.Nth(part, b, a); got != 0 || e != api.ErrArg {
						t.Errorf("%v: Nth(%d, %d, %d): %d, %d", table, part, b, a, got, e)
					}
				}
			}
		}
		// ErrAbsent is ahead of answers above 2^62.
		for _, part := range append([]int{3, 7}, nobody...) {
			if slices.Contains(table, part) {
				continue
			}
			for _, from := range high {
				for _, n := range high {
					if got, e := s.Nth(part, from, n); got != 0 || e != api.ErrAbsent {
						t.Errorf("%v: Nth(%d, %d, %d): %d, %d", table, part, from, n, got, e)
					}
				}
			}
		}
	})
}

// nthBig tells by big numbers what Nth answers, where nothing is wrong with its arguments.
func nthBig(table []int, part int, from, n int64) (int64, api.Errno) {
	places := slotsOf(table, part, len(table))
	all := countedBig(table, part, from)
	all.Add(all, big.NewInt(n))
	rounds, rest := new(big.Int).DivMod(all, big.NewInt(int64(len(places))), new(big.Int))
	at := rounds.Mul(rounds, big.NewInt(int64(len(table))))
	at.Add(at, big.NewInt(places[rest.Int64()]))
	if at.Cmp(big.NewInt(top)) > 0 {
		return 0, api.ErrRange
	}
	return at.Int64(), api.OK
}

func TestNthNearItsBound(t *testing.T) {
	each(t, func(table []int, s *Slots) {
		for part := range 4 {
			if !slices.Contains(table, part) {
				continue
			}
			late := []int64{0, 1, 1 << 32, top / 64, top/64 + 1, top / 2, top - 64, top - 2, top - 1, top, top + 1, top + 64, longest - 1, longest}
			// How many slots there are up to the bound, for n just within it and just beyond.
			edge := countedBig(table, part, top).Int64()
			for _, from := range late {
				left := edge - countedBig(table, part, min(from, top)).Int64()
				for _, n := range append(late, max(left-2, 0), max(left-1, 0), left, left+1, edge-1, edge, edge+1) {
					want, w := nthBig(table, part, from, n)
					if got, e := s.Nth(part, from, n); got != want || e != w {
						t.Fatalf("%v: Nth(%d, %d, %d): %d, %d, not %d, %d", table, part, from, n, got, e, want, w)
					}
				}
			}
		}
	})
}

func TestNthAtItsBound(t *testing.T) {
	// 2^62 is 64 times 2^56: the tick 2^62 is the first entry's in all of these tables.
	first := make([]int, 64)
	first[0] = 1
	second := make([]int, 64)
	second[1] = 1
	for _, c := range []struct {
		table   []int
		from, n int64
		want    int64
		e       api.Errno
	}{
		{[]int{1}, top, 0, top, api.OK}, {[]int{1}, 0, top, top, api.OK}, {[]int{1}, top / 2, top / 2, top, api.OK}, {[]int{1}, 1, top - 1, top, api.OK},
		{[]int{1}, top, 1, 0, api.ErrRange}, {[]int{1}, 1, top, 0, api.ErrRange}, {[]int{1}, top + 1, 0, 0, api.ErrRange}, {[]int{1}, 0, top + 1, 0, api.ErrRange},
		{[]int{1, 0}, top, 0, top, api.OK}, {[]int{1, 0}, 0, top / 2, top, api.OK}, {[]int{1, 0}, 0, top/2 + 1, 0, api.ErrRange},
		{[]int{0, 1}, top - 1, 0, top - 1, api.OK}, {[]int{0, 1}, top, 0, 0, api.ErrRange}, {[]int{0, 1}, 0, top/2 - 1, top - 1, api.OK}, {[]int{0, 1}, 0, top / 2, 0, api.ErrRange},
		{first, 0, 1 << 56, top, api.OK}, {first, 0, 1<<56 + 1, 0, api.ErrRange}, {first, top - 63, 0, top, api.OK}, {first, top - 64, 1, top, api.OK},
		{second, 0, 1<<56 - 1, top - 63, api.OK}, {second, 0, 1 << 56, 0, api.ErrRange}, {second, top - 62, 0, 0, api.ErrRange}, {second, top - 63, 0, top - 63, api.OK},
		{first, 0, 1 << 57, 0, api.ErrRange}, {first, 0, 1 << 58, 0, api.ErrRange}, {first, 0, top, 0, api.ErrRange},
		{[]int{1}, longest, longest, 0, api.ErrRange}, {[]int{1}, longest, 0, 0, api.ErrRange}, {[]int{1}, 0, longest, 0, api.ErrRange}, {[]int{1}, top, top, 0, api.ErrRange},
	} {
		if got, e := made(t, c.table, 2).Nth(1, c.from, c.n); got != c.want || e != c.e {
			t.Errorf("%v: Nth(1, %d, %d): %d, %d, not %d, %d", c.table, c.from, c.n, got, e, c.want, c.e)
		}
	}
}

// P3.5, W3

// marks are ticks at which rows of them begin and end, rising.
var marks = []int64{math.MinInt64, -64, -1, 0, 1, 4, 5, 7, 63, 64, 65, 1 << 32, top, longest - 3, longest}

func TestCountOfTwoRowsIsTheirSum(t *testing.T) {
	each(t, func(table []int, s *Slots) {
		for part := range 4 {
			for i, from := range marks {
				for j, mid := range marks[i:] {
					for _, to := range marks[i+j:] {
						if s.Count(part, from, mid)+s.Count(part, mid, to) != s.Count(part, from, to) {
							t.Fatalf("%v: Count(%d, ..) of %d, %d, %d", table, part, from, mid, to)
						}
					}
				}
			}
		}
	})
}

func TestEachTickIsOneSlot(t *testing.T) {
	each(t, func(table []int, s *Slots) {
		for i, from := range marks {
			for _, to := range marks[i:] {
				var sum int64
				for part := range api.MaxParts {
					sum += s.Count(part, from, to)
				}
				if want := max(to, 0) - max(from, 0); sum != want {
					t.Fatalf("%v: %d slots from %d to %d", table, sum, from, to)
				}
			}
		}
		for x := range int64(70) {
			for part := range api.MaxParts {
				if is := s.Count(part, x, x+1) == 1; is != (s.Owner(x) == part) {
					t.Errorf("%v: the tick %d, the partition %d", table, x, part)
				}
			}
		}
	})
}

func TestNthIsASlotBehindNOthers(t *testing.T) {
	each(t, func(table []int, s *Slots) {
		for _, part := range table {
			for _, from := range []int64{0, 1, 3, 62, 65, 1 << 33, 1 << 60} {
				for _, n := range []int64{0, 1, 2, 5, 64, 1 << 31, 1 << 50} {
					got, e := s.Nth(part, from, n)
					if e != api.OK || got < from || s.Owner(got) != part || s.Count(part, from, got) != n {
						t.Fatalf("%v: Nth(%d, %d, %d): %d, %d", table, part, from, n, got, e)
					}
				}
			}
		}
	})
}

func TestNeighbouringSlotsAreNoFurtherThanGap(t *testing.T) {
	each(t, func(table []int, s *Slots) {
		for _, part := range table {
			before, widest := int64(-1), int64(0)
			for n := range int64(len(table) + 1) {
				at, e := s.Nth(part, 0, n)
				if e != api.OK {
					t.Fatalf("%v: Nth(%d, 0, %d): %d", table, part, n, e)
				}
				widest = max(widest, at-before-1)
				before = at
			}
			if want := int64(s.Gap(part) - 1); widest != want {
				t.Errorf("%v: the partition %d waits %d ticks, not %d", table, part, widest, want)
			}
		}
	})
}

func TestWhoStandsInTheTableHasASlotInEveryRound(t *testing.T) {
	each(t, func(table []int, s *Slots) {
		k := int64(len(table))
		for _, part := range table {
			for _, from := range []int64{0, 1, 2, 17, 63, 1 << 40, top, longest - k} {
				if s.Count(part, from, from+k) < 1 {
					t.Errorf("%v: no slot of %d in a round from %d on", table, part, from)
				}
			}
		}
	})
}

// P3.6

func TestNewNeitherChangesNorKeepsItsTable(t *testing.T) {
	each(t, func(table []int, _ *Slots) {
		room := append(slices.Clone(table), 6, 5, 4)
		was := slices.Clone(room)
		s := made(t, room[:len(table)], 8)
		if !slices.Equal(room, was) {
			t.Fatalf("%v: New made %v of it", was, room)
		}
		ask(s)
		if !slices.Equal(room, was) {
			t.Fatalf("%v: asking made %v of it", was, room)
		}
		for i := range room {
			room[i] = 7 - room[i]
		}
		for i, want := range owners(table, 130) {
			if got := s.Owner(int64(i)); got != want {
				t.Fatalf("%v: its table shares memory: Owner(%d): %d", table, i, got)
			}
		}
	})
}

func TestNewOfWhatMayNotBeChangesNothing(t *testing.T) {
	for _, table := range [][]int{{}, {0, 9, 1}, {-1}, make([]int, 65)} {
		room := append(slices.Clone(table), 3, 2)
		was := slices.Clone(room)
		if s, e, _ := New(room[:len(table)], 2); s != nil || e == api.OK || !slices.Equal(room, was) {
			t.Errorf("New of %v: %v, %d, and made %v of it", was, s, e, room)
		}
	}
}

func TestSlotsOfOneTableAreTheirOwn(t *testing.T) {
	table := []int{0, 1, 1}
	a := made(t, table, 2)
	table[1] = 0
	b := made(t, table, 2)
	if a.Gap(0) != 3 || b.Gap(0) != 2 || a.Count(1, 0, 3) != 2 || b.Count(1, 0, 3) != 1 {
		t.Error("the slots of two tables in one list")
	}
}

// ask asks for all that slots tell.
func ask(s *Slots) []int64 {
	list := []int64{int64(s.Len())}
	for part := -1; part <= api.MaxParts; part++ {
		list = append(list, int64(s.Gap(part)))
		for _, x := range []int64{-1, 0, 3, 64, top, longest} {
			at, e := s.Nth(part, x, 2)
			list = append(list, int64(s.Owner(x)), s.Count(part, x, x/2), s.Count(part, 1, x), at, int64(e))
		}
	}
	return list
}

// R4
func TestAskingChangesNoAnswer(t *testing.T) {
	each(t, func(table []int, s *Slots) {
		first := ask(s)
		if !slices.Equal(first, ask(s)) || !slices.Equal(first, ask(made(t, table, 8))) {
			t.Errorf("%v: other answers the second time", table)
		}
	})
}

// The chapter's examples

func TestExamples(t *testing.T) {
	s := made(t, []int{0, 1, 0, 0, 2}, 4)
	if s.Len() != 5 {
		t.Errorf("Len: %d", s.Len())
	}
	for _, c := range []struct {
		at   int64
		want int
	}{{0, 0}, {4, 2}, {6, 1}, {-1, -1}} {
		if got := s.Owner(c.at); got != c.want {
			t.Errorf("Owner(%d): %d", c.at, got)
		}
	}
	for _, c := range [][2]int{{0, 2}, {1, 5}, {2, 5}, {3, 0}, {9, 0}} {
		if got := s.Gap(c[0]); got != c[1] {
			t.Errorf("Gap(%d): %d", c[0], got)
		}
	}
	for _, c := range [][4]int64{{0, 0, 5, 3}, {0, 1, 4, 2}, {0, -7, 1, 1}, {1, 5, 5, 0}, {3, 0, 99, 0}} {
		if got := s.Count(int(c[0]), c[1], c[2]); got != c[3] {
			t.Errorf("Count(%d, %d, %d): %d", c[0], c[1], c[2], got)
		}
	}
	for _, c := range []struct {
		part          int
		from, n, want int64
		e             api.Errno
	}{
		{0, 0, 0, 0, api.OK}, {0, 1, 0, 2, api.OK}, {0, 1, 2, 5, api.OK}, {1, 2, 1, 11, api.OK},
		{3, 0, 0, 0, api.ErrAbsent}, {0, -1, 0, 0, api.ErrArg}, {1, top, 0, 0, api.ErrRange},
	} {
		if got, e := s.Nth(c.part, c.from, c.n); got != c.want || e != c.e {
			t.Errorf("Nth(%d, %d, %d): %d, %d", c.part, c.from, c.n, got, e)
		}
	}
}

// Example 6 of the whole
func TestTableOfTheWhole(t *testing.T) {
	s := made(t, []int{0, 1, 0, 2}, 3)
	for n := range int64(50) {
		for part, want := range []int64{2 * n, 4*n + 1, 4*n + 3} {
			if got, e := s.Nth(part, 0, n); got != want || e != api.OK {
				t.Errorf("Nth(%d, 0, %d): %d, %d", part, n, got, e)
			}
		}
	}
}
