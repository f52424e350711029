package graph

import (
	"math"
	"slices"
	"testing"
)

// P20.2: the chapter's examples.

func TestExamplesOfRings(t *testing.T) {
	rings(t, nil)
	rings(t, list(1, 2))
	rings(t, list(1, 2, 2, 3))
	rings(t, list(3, 1, 1, 2, 2, 3), 1, 2, 3)
	rings(t, list(5, 5), 5)
	rings(t, list(4, 5, 5, 5), 5)
	rings(t, list(1, 2, 2, 1, 1, 0))
	rings(t, list(9, 7, 7, 9, 1, 9, 2, 3, 3, 2), 7, 9)
}

// P20.2: what an edge and a ring are.

func TestNoEdges(t *testing.T) {
	rings(t, nil)
	rings(t, [][2]int{})
	rings(t, list(1, 2, 2, 3, 3, 1)[:0])
}

func TestWaysThatEnd(t *testing.T) {
	rings(t, list(0, 0+1))
	rings(t, list(2, 1, 1, 0))
	rings(t, list(0, 3, 1, 3, 2, 3))
	rings(t, list(3, 0, 3, 1, 3, 2))
	rings(t, list(0, 1, 0, 2, 1, 3, 2, 3))
	// Two ways that come together are no ring, whichever is gone first.
	rings(t, list(0, 5, 5, 6, 1, 5, 6, 7))
	rings(t, list(9, 5, 5, 6, 6, 7, 8, 6))
	// The number 0 has no edge: nothing goes on from it.
	rings(t, list(5, 0))
	rings(t, list(-5, 0, 5, 0))
}

// Where each way ends at a number without an edge that isn't 0, an edge of the number 0 is not gone along.
func TestAWayThatEndsDoesNotGoOnFromZero(t *testing.T) {
	rings(t, list(1, 2, 0, 1))
	rings(t, list(2, 9, 0, 2))
	rings(t, list(-1, -2, 0, -1))
	rings(t, list(0, 4, 4, 8, 8, 9))
}

func TestANumberWithAnEdgeToItself(t *testing.T) {
	for _, p := range append([]int{0, 1, 2, 5}, wild...) {
		rings(t, list(p, p), p)
		rings(t, list(p, p, p, p), p)
		if p > math.MinInt {
			rings(t, list(p, p, p, p-1))
			rings(t, list(p, p-1, p, p))
			rings(t, list(p-1, p, p, p), p)
		}
		if p < math.MaxInt {
			rings(t, list(p, p, p, p+1), p)
			rings(t, list(p, p+1, p, p), p)
			rings(t, list(p+1, p, p, p), p)
		}
	}
	rings(t, list(1, 1, 2, 2), 1)
	rings(t, list(2, 2, 1, 1), 1)
}

func TestTheEdgeToTheLeastCounts(t *testing.T) {
	// The least one given first, last, and in the midst.
	for _, e := range [][][2]int{list(1, 2, 1, 3, 1, 4), list(1, 4, 1, 3, 1, 2), list(1, 3, 1, 2, 1, 4), list(1, 4, 1, 2, 1, 3)} {
		rings(t, slices.Concat(e, list(2, 1)), 1, 2)
		rings(t, slices.Concat(list(2, 1), e), 1, 2)
		rings(t, slices.Concat(e, list(3, 1)))
		rings(t, slices.Concat(e, list(4, 1)))
		rings(t, slices.Concat(list(3, 1, 4, 1), e))
		rings(t, slices.Concat(e, list(2, 3, 3, 1, 4, 1)), 1, 2, 3)
	}
	// By their numbers, not by how far they are from 0, nor as numbers without a sign.
	rings(t, list(1, 0, 1, -1, -1, 1), -1, 1)
	rings(t, list(1, -1, 1, 0, 0, 1))
	rings(t, list(1, -9, 1, 2, 2, 1))
	rings(t, list(1, math.MinInt, 1, math.MaxInt, math.MinInt, 1), math.MinInt, 1)
	rings(t, list(1, math.MaxInt, 1, math.MinInt, math.MaxInt, 1))
	rings(t, list(1, 1<<32, 1, 2, 1<<32, 1))
	rings(t, list(1, 1<<32, 1, 2, 2, 1), 1, 2)
	// Of each number, also of those in the midst of a way.
	rings(t, list(1, 2, 2, 3, 3, 1, 3, 0))
	rings(t, list(1, 2, 2, 3, 3, 1, 3, 4), 1, 2, 3)
	rings(t, list(1, 2, 1, 3, 2, 3, 2, 4, 3, 1, 3, 5, 4, 1), 1, 2, 3)
}

func TestOneEdgeTwice(t *testing.T) {
	rings(t, list(1, 2, 1, 2))
	rings(t, list(1, 2, 1, 2, 2, 1, 2, 1), 1, 2)
	rings(t, list(1, 2, 2, 4, 1, 2, 4, 1, 2, 4), 1, 2, 4)
	rings(t, list(1, 0, 1, 2, 1, 0, 2, 1))
}

func TestARingThatIsComeToFromOutside(t *testing.T) {
	rings(t, list(1, 6, 6, 8, 8, 6), 6, 8)
	rings(t, list(1, 8, 6, 8, 8, 6), 6, 8)
	rings(t, list(1, 2, 2, 3, 3, 9, 9, 5, 5, 7, 7, 9), 5, 7, 9)
	rings(t, list(9, 5, 5, 6, 6, 5), 5, 6)
	rings(t, list(-7, 3, 3, 3), 3)
	// A way that comes to no ring is gone ahead of it, and another one comes to the same end.
	rings(t, list(1, 2, 2, 3, 4, 2, 5, 6, 6, 7, 7, 6), 6, 7)
	rings(t, list(1, 2, 2, 3, 4, 1, 5, 6, 6, 7, 7, 5), 5, 6, 7)
}

func TestOfTwoRingsTheFirstWayTells(t *testing.T) {
	c := chance(1)
	for range 30 {
		// The least beginning counts, not the least ring, nor which one was given first.
		rings(t, shuffled(&c, list(2, 3, 3, 2, 7, 9, 9, 7)), 2, 3)
		rings(t, shuffled(&c, list(2, 3, 3, 2, 7, 9, 9, 7, 1, 9)), 7, 9)
		rings(t, shuffled(&c, list(2, 3, 3, 2, 7, 9, 9, 7, 1, 2)), 2, 3)
		rings(t, shuffled(&c, list(2, 3, 3, 2, 7, 9, 9, 7, 0, 1, 1, 4)), 2, 3)
		rings(t, shuffled(&c, list(2, 3, 3, 2, 7, 9, 9, 7, -1, 8, 8, 7)), 7, 9)
		rings(t, shuffled(&c, list(6, 8, 8, 6, 0, 1, 1, 0, 1, 8)), 0, 1)
		rings(t, shuffled(&c, list(-3, -2, -2, -3, 0, 1, 1, 0, 5, 5)), -3, -2)
		rings(t, shuffled(&c, list(5, 5, 4, 4, 3, 3, 2, 4)), 4)
	}
}

func TestTheRingIsToldFromItsLeastOnAlongItsEdges(t *testing.T) {
	c := chance(2)
	for range 30 {
		rings(t, shuffled(&c, list(1, 4, 4, 2, 2, 3, 3, 1)), 1, 4, 2, 3)
		rings(t, shuffled(&c, list(1, 3, 3, 2, 2, 1)), 1, 3, 2)
		rings(t, shuffled(&c, list(0, 5, 5, 2, 2, 7, 7, 4, 4, 5)), 2, 7, 4, 5)
		rings(t, shuffled(&c, list(-5, 4, 4, -9, -9, 0, 0, -5)), -9, 0, -5, 4)
		rings(t, shuffled(&c, list(math.MaxInt, math.MinInt, math.MinInt, 0, 0, math.MaxInt)), math.MinInt, 0, math.MaxInt)
	}
}

func TestGreatAndSmallNumbers(t *testing.T) {
	all := append([]int{0, 1, 2}, wild...)
	for i, p := range all {
		for _, q := range all[:i] {
			least, most := min(p, q), max(p, q)
			rings(t, list(p, q, q, p), least, most)
			rings(t, list(q, p, p, q), least, most)
			rings(t, list(p, q))
			rings(t, list(q, p))
		}
	}
	c := chance(3)
	for range 2000 {
		ring := shuffled(&c, all)[:1+c.next(len(all))]
		at := slices.Index(ring, slices.Min(ring))
		want := slices.Concat(ring[at:], ring[:at])
		var e [][2]int
		for i, p := range ring {
			e = append(e, [2]int{p, ring[(i+1)%len(ring)]})
		}
		rings(t, shuffled(&c, e), want...)
	}
}

// P20.2: whatever edges, held against the plain way.

func TestAllEdgesOfThreeNumbers(t *testing.T) {
	c := chance(4)
	for _, numbers := range [][3]int{{0, 1, 2}, {-1, 0, 1}, {math.MinInt, -1, math.MaxInt}, {3, 1 << 32, 1<<32 + 3}} {
		for set := range 1 << 9 {
			var e [][2]int
			for i := range 9 {
				if set>>i&1 == 1 {
					e = append(e, [2]int{numbers[i/3], numbers[i%3]})
				}
			}
			rings(t, e, plainRing(e)...)
			e = shuffled(&c, e)
			rings(t, e, plainRing(e)...)
		}
	}
}

// Of each of five numbers one edge, to one of them or to a sixth one, or none.
func TestAllWaysOfFiveNumbers(t *testing.T) {
	c := chance(5)
	for set := range 7 * 7 * 7 * 7 * 7 {
		var e [][2]int
		for p := range 5 {
			if set%7 < 6 {
				e = append(e, [2]int{p, set % 7})
			}
			set /= 7
		}
		e = shuffled(&c, e)
		want := plainRing(e)
		rings(t, e, want...)
		if len(want) > 0 && !isRing(e, want) {
			t.Errorf("%v of %v is no ring", want, e)
		}
	}
}

// edges makes some, of numbers of all kinds.
func (c *chance) edges() [][2]int {
	most := 1 + c.next(30)
	number := func() int {
		if c.next(8) == 0 {
			return wild[c.next(len(wild))]
		}
		return c.next(most) - most/3
	}
	e := make([][2]int, c.next(2*most))
	for i := range e {
		e[i] = [2]int{number(), number()}
	}
	return e
}

func TestChanceEdges(t *testing.T) {
	c := chance(6)
	none, some, long := 0, 0, 0
	for range 60000 {
		e := c.edges()
		want := plainRing(e)
		rings(t, e, want...)
		switch {
		case len(want) == 0:
			none++
		case len(want) > 3:
			long++
		default:
			some++
		}
	}
	if none < 1000 || some < 1000 || long < 1000 {
		t.Errorf("%d have none, %d a short one, %d a long one", none, some, long)
	}
}

// The order in which edges are given is nothing to it.
func TestEdgesInAnyOrder(t *testing.T) {
	c := chance(7)
	for range 3000 {
		e := c.edges()
		want := Ring(e)
		slices.Reverse(e)
		rings(t, e, want...)
		rings(t, shuffled(&c, e), want...)
		rings(t, append(e, e...), want...)
	}
}

// R1: many edges, in any order, are gone along in good time.
func TestManyEdges(t *testing.T) {
	const n = 200000
	var up, down, star, to []([2]int)
	for p := range n {
		up = append(up, [2]int{p, p + 1})
		down = append(down, [2]int{p + 1, p})
		star = append(star, [2]int{p + 1, 0})
		to = append(to, [2]int{0, n - p})
	}
	c := chance(8)
	all := make([]int, n+1)
	for p := range all {
		all[p] = p
	}
	for _, e := range [][][2]int{up, down, star, to} {
		rings(t, e)
		rings(t, shuffled(&c, e))
	}
	rings(t, shuffled(&c, append(slices.Clone(up), [2]int{n, n})), n)
	rings(t, shuffled(&c, append(slices.Clone(up), [2]int{n, n - 1})), n-1, n)
	rings(t, shuffled(&c, append(slices.Clone(up), [2]int{n, 0})), all...)
	rings(t, shuffled(&c, append(slices.Clone(down), [2]int{0, 0})), 0)
	rings(t, shuffled(&c, append(slices.Clone(star), [2]int{n + 1, n + 1})), n+1)
	slices.Reverse(all[1:])
	rings(t, shuffled(&c, append(slices.Clone(down), [2]int{0, n})), all...)
	// All ways but the last one end where the first one did.
	ends := slices.Clone(up)
	for p := range n {
		ends = append(ends, [2]int{n + 2 + p, p})
	}
	rings(t, shuffled(&c, ends))
	rings(t, shuffled(&c, append(ends, [2]int{3 * n, 3 * n})), 3*n)
}
