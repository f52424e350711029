package table

import (
	"math"
	"slices"
	"testing"

	"firebreak/api"
)

const all = math.MaxUint64

// outside are numbers that are no partition's in any table.
var outside = []int{-1, -2, -8, math.MinInt, api.MaxParts, api.MaxParts + 1, 64, 1 << 32, math.MaxInt}

// tables are lists of labels that may be: the document's, the edges, and every choice of rising labels out of eight.
func tables() [][]uint64 {
	list := [][]uint64{
		{0, 1, 2, 3, 8}, {all}, {0, all}, {all - 1, all}, {1 << 62, 1 << 63, 3 << 62},
		{0, 1, 2, 4, 8, 16, 32, 63}, {1, 2, 4, 8, 16, 32, 64, 128}, {0, 1, 3, 7, 15, 31, 1<<63 - 1, all},
	}
	pool := []uint64{0, 1, 2, 3, 6, 1 << 32, 1<<63 | 2, all}
	for m := 1; m < 1<<len(pool); m++ {
		var l []uint64
		for i, a := range pool {
			if m>>i&1 == 1 {
				l = append(l, a)
			}
		}
		list = append(list, l)
	}
	return list
}

// queries are labels to ask a table of l for: its own, their neighbours, and others.
func queries(l []uint64) []uint64 {
	list := []uint64{0, 1, 2, 3, 4, 5, 10, 1 << 31, 1 << 32, 1 << 63, 1<<63 - 1, all - 1, all}
	for _, a := range l {
		list = append(list, a, a-1, a+1, ^a)
	}
	return list
}

// flows tells by single secrets whether a flows to b.
func flows(a, b uint64) bool {
	for n := range 64 {
		if a>>n&1 == 1 && b>>n&1 == 0 {
			return false
		}
	}
	return true
}

func made(t *testing.T, l []uint64) *Table {
	t.Helper()
	x, e, at := New(l)
	if x == nil || e != api.OK || at != 0 {
		t.Fatalf("New(%v): %v, %d at %d", l, x, e, at)
	}
	return x
}

func TestErrorsAndLimitsThatComeHere(t *testing.T) {
	if api.OK != 0 || api.ErrArg != 1 || api.ErrRange != 2 || api.ErrMany != 3 || api.ErrOrder != 7 || api.ErrTwice != 8 {
		t.Error("the numbers of the errors")
	}
	if api.MaxParts != 8 {
		t.Error("the limit of partitions")
	}
}

// P2.1, and of P2.3 what is refused

func TestMayAndNewOfWhatMayNotBe(t *testing.T) {
	nine := []uint64{0, 1, 2, 3, 4, 5, 6, 7, 8}
	for _, c := range []struct {
		l  []uint64
		e  api.Errno
		at int
	}{
		{nil, api.ErrArg, 0}, {[]uint64{}, api.ErrArg, 0},
		{nine, api.ErrMany, 8}, {make([]uint64, 9), api.ErrMany, 8}, {make([]uint64, 1000), api.ErrMany, 8},
		{[]uint64{8, 7, 6, 5, 4, 3, 2, 1, 0}, api.ErrMany, 8},
		{[]uint64{0, 1, 1}, api.ErrTwice, 2}, {[]uint64{0, 3, 2}, api.ErrOrder, 2}, {[]uint64{5, 3, 5}, api.ErrOrder, 1},
		{[]uint64{0, 0}, api.ErrTwice, 1}, {[]uint64{all, all}, api.ErrTwice, 1}, {make([]uint64, 8), api.ErrTwice, 1},
		{[]uint64{1, 0}, api.ErrOrder, 1}, {[]uint64{5, 5, 3}, api.ErrTwice, 1}, {[]uint64{5, 3, 3}, api.ErrOrder, 1},
		{[]uint64{1, 2, 1}, api.ErrOrder, 2}, {[]uint64{1, 4, 2, 2}, api.ErrOrder, 2}, {[]uint64{1, 4, 4, 2}, api.ErrTwice, 2},
		// Labels are held against each other as numbers without a sign.
		{[]uint64{1 << 63, 1}, api.ErrOrder, 1}, {[]uint64{all, 0}, api.ErrOrder, 1}, {[]uint64{0, all, 1<<63 - 1}, api.ErrOrder, 2},
		{[]uint64{0, 1, 2, 3, 4, 5, 6, 6}, api.ErrTwice, 7}, {[]uint64{0, 1, 2, 3, 4, 5, 6, 5}, api.ErrOrder, 7},
	} {
		if e, at := May(c.l); e != c.e || at != c.at {
			t.Errorf("May(%v): %d at %d, not %d at %d", c.l, e, at, c.e, c.at)
		}
		if x, e, at := New(c.l); x != nil || e != c.e || at != c.at {
			t.Errorf("New(%v): %v, %d at %d, not %d at %d", c.l, x, e, at, c.e, c.at)
		}
	}
}

// lists calls f with every list of 1 to n labels out of pool.
func lists(pool []uint64, n int, f func(l []uint64)) {
	var more func(l []uint64)
	more = func(l []uint64) {
		if len(l) > 0 {
			f(l)
		}
		if len(l) == n {
			return
		}
		for _, a := range pool {
			more(append(slices.Clone(l), a))
		}
	}
	more(nil)
}

func TestMayFindsTheFirstFault(t *testing.T) {
	lists([]uint64{0, 1, 1<<63 - 1, 1 << 63, all}, 5, func(l []uint64) {
		rising := 1 // how many labels the longest rising beginning has
		for rising < len(l) && l[rising] > l[rising-1] {
			rising++
		}
		want, place := api.OK, 0
		switch {
		case rising == len(l):
		case l[rising] == l[rising-1]:
			want, place = api.ErrTwice, rising
		default:
			want, place = api.ErrOrder, rising
		}
		if e, at := May(l); e != want || at != place {
			t.Fatalf("May(%v): %d at %d, not %d at %d", l, e, at, want, place)
		}
		if x, e, at := New(l); e != want || at != place || (x == nil) != (e != api.OK) {
			t.Fatalf("New(%v): %v, %d at %d, not %d at %d", l, x, e, at, want, place)
		}
	})
}

func TestMayOfWhatMayBe(t *testing.T) {
	for _, l := range append(tables(), []uint64{7}, []uint64{0}) {
		if e, at := May(l); e != api.OK || at != 0 {
			t.Errorf("May(%v): %d at %d", l, e, at)
		}
	}
}

// P2.2

func TestCanon(t *testing.T) {
	for _, c := range []struct{ l, want []uint64 }{
		{nil, nil}, {[]uint64{}, nil}, {[]uint64{3, 0, 3, 1}, []uint64{0, 1, 3}}, {[]uint64{5}, []uint64{5}},
		{[]uint64{5, 5, 5}, []uint64{5}}, {[]uint64{all, 1 << 63, 0, all, 1}, []uint64{0, 1, 1 << 63, all}},
		{[]uint64{9, 8, 7, 6, 5, 4, 3, 2, 1, 0}, []uint64{0, 1, 2, 3, 4, 5, 6, 7, 8, 9}},
	} {
		if got := Canon(c.l); !slices.Equal(got, c.want) {
			t.Errorf("Canon(%v): %v", c.l, got)
		}
	}
}

func TestCanonHasTheSameLabelsRising(t *testing.T) {
	lists([]uint64{0, 2, 1 << 63, all}, 5, func(l []uint64) {
		got := Canon(l)
		for i := 1; i < len(got); i++ {
			if got[i] <= got[i-1] {
				t.Fatalf("Canon(%v): %v", l, got)
			}
		}
		for _, a := range []uint64{0, 1, 2, 3, 1 << 63, all} {
			if slices.Contains(got, a) != slices.Contains(l, a) {
				t.Fatalf("Canon(%v): %v, of which %d", l, got, a)
			}
		}
	})
}

func TestCanonOfMany(t *testing.T) {
	const n = 10007
	l := make([]uint64, 3*n)
	for i := range l {
		l[i] = uint64(i * 5003 % n) // each number below n three times, out of order
	}
	got := Canon(l)
	if len(got) != n {
		t.Fatalf("%d labels, not %d", len(got), n)
	}
	for i, a := range got {
		if a != uint64(i) {
			t.Fatalf("the label %d at %d", a, i)
		}
	}
}

// P2.3, P2.4

func TestExamples(t *testing.T) {
	x := made(t, []uint64{0, 1, 2, 3, 8})
	if x.Len() != 5 {
		t.Errorf("Len: %d", x.Len())
	}
	for _, c := range []struct {
		i int
		a uint64
		e api.Errno
	}{{3, 3, api.OK}, {4, 8, api.OK}, {0, 0, api.OK}, {5, 0, api.ErrRange}, {-1, 0, api.ErrRange}} {
		if a, e := x.Label(c.i); a != c.a || e != c.e {
			t.Errorf("Label(%d): %d, %d", c.i, a, e)
		}
	}
	if i, is := x.Index(8); i != 4 || !is {
		t.Errorf("Index(8): %d, %v", i, is)
	}
	if i, is := x.Index(4); i != 0 || is {
		t.Errorf("Index(4): %d, %v", i, is)
	}
	for _, c := range []struct {
		i, j int
		want bool
	}{{1, 3, true}, {1, 2, false}, {0, 4, true}, {3, 3, true}, {3, 5, false}} {
		if x.Flows(c.i, c.j) != c.want {
			t.Errorf("Flows(%d, %d): %v", c.i, c.j, !c.want)
		}
	}
	for _, c := range []struct {
		what      string
		got, want []int
	}{
		{"Down(3)", x.Down(3), []int{0, 1, 2, 3}}, {"Down(10)", x.Down(10), []int{0, 2, 4}}, {"Down(0)", x.Down(0), []int{0}},
		{"Up(1)", x.Up(1), []int{1, 3}}, {"Up(0)", x.Up(0), []int{0, 1, 2, 3, 4}}, {"Up(5)", x.Up(5), nil},
	} {
		if !slices.Equal(c.got, c.want) {
			t.Errorf("%s: %v", c.what, c.got)
		}
	}
}

func TestEachPartitionHasItsLabel(t *testing.T) {
	for _, l := range tables() {
		x := made(t, l)
		if x.Len() != len(l) {
			t.Errorf("%v: Len %d", l, x.Len())
		}
		for i, want := range l {
			if a, e := x.Label(i); a != want || e != api.OK {
				t.Errorf("%v: Label(%d): %d, %d", l, i, a, e)
			}
		}
		for _, i := range append(outside, len(l)) {
			if a, e := x.Label(i); a != 0 || e != api.ErrRange {
				t.Errorf("%v: Label(%d): %d, %d", l, i, a, e)
			}
		}
		for _, a := range queries(l) {
			i, is := x.Index(a)
			if want := slices.Index(l, a); is != (want >= 0) || i != max(want, 0) {
				t.Errorf("%v: Index(%d): %d, %v", l, a, i, is)
			}
		}
	}
}

func TestWhoFlowsToWhom(t *testing.T) {
	for _, l := range tables() {
		x := made(t, l)
		for i, a := range l {
			var up []int
			for j, b := range l {
				if flows(a, b) {
					up = append(up, j)
				}
				if x.Flows(i, j) != flows(a, b) {
					t.Errorf("%v: Flows(%d, %d): %v", l, i, j, x.Flows(i, j))
				}
			}
			if got := x.Up(i); !slices.Equal(got, up) {
				t.Errorf("%v: Up(%d): %v", l, i, got)
			}
		}
		for _, a := range queries(l) {
			var down []int
			for i, b := range l {
				if flows(b, a) {
					down = append(down, i)
				}
			}
			if got := x.Down(a); !slices.Equal(got, down) {
				t.Errorf("%v: Down(%d): %v", l, a, got)
			}
		}
	}
}

func TestNoPartitionFlowsNowhere(t *testing.T) {
	for _, l := range tables() {
		x := made(t, l)
		for _, i := range append(outside, len(l)) {
			if got := x.Up(i); len(got) != 0 {
				t.Errorf("%v: Up(%d): %v", l, i, got)
			}
			for j := range l {
				if x.Flows(i, j) || x.Flows(j, i) {
					t.Errorf("%v: %d and %d", l, i, j)
				}
			}
			for _, j := range append(outside, len(l)) {
				if x.Flows(i, j) {
					t.Errorf("%v: Flows(%d, %d)", l, i, j)
				}
			}
		}
	}
}

// P2.5

func TestFlowsIsAnOrder(t *testing.T) {
	for _, l := range tables() {
		x := made(t, l)
		for i := range l {
			if !x.Flows(i, i) {
				t.Errorf("%v: %d doesn't flow to itself", l, i)
			}
			for j := range l {
				if x.Flows(i, j) && i > j {
					t.Errorf("%v: %d flows down to %d", l, i, j)
				}
				for k := range l {
					if x.Flows(i, j) && x.Flows(j, k) && !x.Flows(i, k) {
						t.Errorf("%v: %d flows to %d, that to %d, but not %d", l, i, j, k, i)
					}
				}
			}
		}
	}
}

func TestUpAndDownTellTheSameAsFlows(t *testing.T) {
	for _, l := range tables() {
		x := made(t, l)
		for i := range l {
			for j, b := range l {
				is := x.Flows(i, j)
				if slices.Contains(x.Up(i), j) != is || slices.Contains(x.Down(b), i) != is {
					t.Errorf("%v: %d to %d: Flows %v, Up %v, Down %v", l, i, j, is, x.Up(i), x.Down(b))
				}
			}
		}
	}
}

// P2.6

// roomy tells l with spare room behind it that is filled with a mark.
func roomy(l []uint64, mark uint64) []uint64 {
	own := append(slices.Clone(l), mark, mark, mark)
	return own[:len(l)]
}

func TestWhatIsHandedInStays(t *testing.T) {
	for _, l := range [][]uint64{{}, {3, 0, 3, 1}, {0, 1, 2, 3, 8}, {5, 3, 5}, {0, 1, 1}, {9, 8, 7, 6, 5, 4, 3, 2, 1, 0}} {
		in := roomy(l, 99)
		May(in)
		New(in)
		Canon(in)
		if want := append(slices.Clone(l), 99, 99, 99); !slices.Equal(in[:len(l)+3], want) {
			t.Errorf("%v became %v", want, in[:len(l)+3])
		}
	}
}

func TestATableKeepsNothingOfItsList(t *testing.T) {
	l := []uint64{0, 1, 2, 3, 8}
	in := roomy(l, 99)
	x := made(t, in)
	for i := range in {
		in[i] = 77
	}
	for i, want := range l {
		if a, e := x.Label(i); a != want || e != api.OK {
			t.Errorf("Label(%d): %d, %d", i, a, e)
		}
		if n, is := x.Index(want); n != i || !is {
			t.Errorf("Index(%d): %d, %v", want, n, is)
		}
	}
	if _, is := x.Index(77); is {
		t.Error("a label that came later")
	}
	if got := x.Up(1); !slices.Equal(got, []int{1, 3}) {
		t.Errorf("Up(1): %v", got)
	}
}

func TestListsAreTheirOwners(t *testing.T) {
	in := []uint64{0, 1, 3}
	out := Canon(in)
	for i := range out[:cap(out)] {
		out[:cap(out)][i] = 77
	}
	if !slices.Equal(in, []uint64{0, 1, 3}) {
		t.Errorf("Canon's answer is its argument: %v", in)
	}
	x := made(t, []uint64{0, 1, 2, 3, 8})
	for _, ask := range []func() []int{func() []int { return x.Up(0) }, func() []int { return x.Up(1) }, func() []int { return x.Down(all) }, func() []int { return x.Down(3) }} {
		got, other := ask(), ask()
		want := slices.Clone(got)
		for i := range got[:cap(got)] {
			got[:cap(got)][i] = 77
		}
		if !slices.Equal(other, want) || !slices.Equal(ask(), want) {
			t.Errorf("%v became %v, then %v", want, other, ask())
		}
	}
	if a, e := x.Label(4); a != 8 || e != api.OK || x.Len() != 5 {
		t.Errorf("the table changed: %d, %d, %d", a, e, x.Len())
	}
}
