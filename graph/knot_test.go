package graph

import (
	"fmt"
	"slices"
	"testing"

	"firebreak/api"
	"firebreak/machine"
	"firebreak/valid"
)

// P20.3 (W5): who holds locks as they should waits for them in no ring.

// quiet are lines that may stand where a lock is held; loud ones may not: they may wait. In the place of %d there comes the number of a process.
var (
	quiet = []string{"now r1", "try r4 r5", "out r1", "timer r1", "self r6"}
	loud  = []string{"set r0 %d", "send r7 r0 r1", "recv r4 r5", "set r2 2", "sleep r2"}
)

// hold makes lines that take locks and give them; if rising, each is above all that are held.
func (c *chance) hold(locks int, rising bool) []string {
	var lines []string
	var held []int
	least := 0
	for range 3 + c.next(8) {
		lock := c.next(locks)
		if rising && len(held) > 0 {
			lock = least + c.next(2)
		}
		switch k := c.next(5); {
		case k < 2 && lock < locks && !slices.Contains(held, lock):
			lines = append(lines, fmt.Sprintf("lock %d", lock))
			held = append(held, lock)
		case k == 2 && len(held) > 0:
			var line string
			line, held = c.give(held)
			lines = append(lines, line)
		default:
			lines = append(lines, quiet[c.next(len(quiet))])
		}
		least = 0
		if len(held) > 0 {
			least = slices.Max(held) + 1
		}
	}
	if c.next(12) == 0 {
		return append(lines, "exit")
	}
	for len(held) > 0 {
		var line string
		line, held = c.give(held)
		lines = append(lines, line)
	}
	return lines
}

// give gives one of the locks that are held.
func (c *chance) give(held []int) (string, []int) {
	i := c.next(len(held))
	return fmt.Sprintf("unlock %d", held[i]), slices.Delete(slices.Clone(held), i, i+1)
}

// lines makes a program of such rows, with lines that may wait in between.
func (c *chance) lines(procs, locks int, rising bool) []string {
	var lines []string
	for range 1 + c.next(3) {
		for range c.next(3) {
			line := loud[c.next(len(loud))]
			if line == loud[0] {
				line = fmt.Sprintf(line, c.next(procs+1))
			}
			lines = append(lines, line)
		}
		lines = append(lines, c.hold(locks, rising)...)
	}
	if c.next(10) > 0 {
		lines = append(lines, "jump 0")
	}
	return lines
}

// holders makes a config of processes that take and give locks.
func (c *chance) holders(rising bool) api.Config {
	x := api.Config{Labels: []uint64{0, 1}[:1+c.next(2)], Table: []int{0}, Fuel: 1 + c.next(5), Lane: 1, Locks: 1 + c.next(4)}
	if len(x.Labels) == 2 {
		x.Table = append(x.Table, 1)
	}
	for procs := 2 + c.next(9); len(x.Procs) < procs; {
		x.Procs = append(x.Procs, of(c.next(len(x.Labels)), c.lines(procs, x.Locks, rising)...))
	}
	return x
}

// mayHold tells whether a program is valid, with some hold.
func mayHold(l []api.Ins, locks int) bool {
	e, _ := valid.Check(l, locks, api.MaxHold)
	return e == api.OK
}

// chains are how many wait for somebody who waits for a lock.
func chains(e [][2]int) int {
	n := 0
	for _, x := range e {
		if slices.ContainsFunc(e, func(y [2]int) bool { return y[0] == x[1] }) {
			n++
		}
	}
	return n
}

func TestNoKnotOfValidPrograms(t *testing.T) {
	c := chance(21)
	waiting, chained, room := 0, 0, 0
	for range 700 {
		x := c.holders(true)
		for p, own := range x.Procs {
			if !mayHold(own.Code, x.Locks) {
				t.Fatalf("process %d of %+v is not valid", p, x)
			}
		}
		m := start(t, x)
		for range 90 {
			c.drive(m, 4*len(x.Procs))
			s := m.State()
			e := Locked(x, s)
			if got := Ring(e); len(got) > 0 {
				t.Fatalf("%v: %v of %+v %+v", got, e, x, s)
			}
			waiting += min(len(e), 1)
			chained += min(chains(e), 1)
			room += min(len(Ring(Edges(x, s))), 1)
		}
	}
	if waiting < 5000 || chained < 1000 || room < 1000 {
		t.Errorf("somebody waited for a lock %d times, for one who waited %d times; %d rings for room", waiting, chained, room)
	}
}

// Programs of any instructions, of which those that are not valid are left out.
func TestNoKnotOfWhateverIsValid(t *testing.T) {
	c := chance(22)
	waiting := 0
	for range 700 {
		x := one()
		x.Fuel, x.Locks = 1+c.next(3), 1+c.next(3)
		for len(x.Procs) < 6 {
			if code := c.code(x.Locks); mayHold(code, x.Locks) {
				x.Procs = append(x.Procs, api.Proc{Code: code})
			}
		}
		m := start(t, x)
		for range 40 {
			c.drive(m, 2*len(x.Procs))
			e := Locked(x, m.State())
			if got := Ring(e); len(got) > 0 {
				t.Fatalf("%v: %v of %+v", got, e, x)
			}
			waiting += min(len(e), 1)
		}
	}
	if waiting < 1000 {
		t.Errorf("somebody waited %d times", waiting)
	}
}

// code makes a program of some instructions, most of which have to do with locks.
func (c *chance) code(locks int) []api.Ins {
	l := make([]api.Ins, 2+c.next(8))
	for i := range l {
		lock := int64(c.next(locks))
		switch c.next(12) {
		case 0:
			l[i] = api.Ins{Op: api.OpJump, Imm: int64(c.next(len(l) + 1))}
		case 1:
			l[i] = api.Ins{Op: api.OpIf, A: c.next(3), Imm: int64(c.next(len(l) + 1))}
		case 2:
			l[i] = api.Ins{Op: api.OpSend, A: 3, B: c.next(3), C: 1}
		case 3:
			l[i] = api.Ins{Op: api.OpTry, A: c.next(3), B: 4}
		case 4:
			l[i] = api.Ins{Op: api.OpSelf, A: c.next(3)}
		case 5, 6, 7:
			l[i] = api.Ins{Op: api.OpUnlock, Imm: lock}
		default:
			l[i] = api.Ins{Op: api.OpLock, Imm: lock}
		}
	}
	return l
}

// As many as there may be, each of which waits for the one behind it: a chain, and no ring.
func TestAChainIsNoKnot(t *testing.T) {
	c := one(of(0, "lock 7", "now r1", "jump 1"))
	c.Locks = api.MaxLocks
	for lock := api.MaxLocks - 2; lock >= 0; lock-- {
		c.Procs = append(c.Procs, of(0, fmt.Sprintf("lock %d", lock), "now r1", fmt.Sprintf("lock %d", lock+1)))
	}
	s := run(t, c, 40).State()
	want := list(1, 0, 2, 1, 3, 2, 4, 3, 5, 4, 6, 5, 7, 6)
	tell(t, c, s, want, want)
	rings(t, Locked(c, s))
}

// P20.3: programs that are not valid come to rings.

func TestKnotsOfProgramsThatAreNotValid(t *testing.T) {
	for _, n := range []int{2, 3, 5, api.MaxLocks} {
		c := one()
		c.Locks = n
		var want []int
		for p := range n {
			c.Procs = append(c.Procs, of(0, fmt.Sprintf("lock %d", p), "now r1", fmt.Sprintf("lock %d", (p+1)%n)))
			want = append(want, p)
		}
		if mayHold(c.Procs[n-1].Code, n) {
			t.Errorf("%+v is valid", c.Procs[n-1])
		}
		m := run(t, c, 4*n)
		rings(t, Locked(c, m.State()), want...)
		m.Inject(0, 1)
		m.Tick()
		rings(t, Locked(c, m.State()), want...)
		m.Kill(n / 2)
		rings(t, Locked(c, m.State()))
	}
}

func TestChanceKnots(t *testing.T) {
	c := chance(23)
	knots, long, gone := 0, 0, 0
	for range 800 {
		x := c.holders(false)
		m := start(t, x)
		was := false
		for range 60 {
			c.drive(m, 2*len(x.Procs))
			s := m.State()
			e := Locked(x, s)
			got := Ring(e)
			if want := plainRing(plainLocked(s)); !slices.Equal(got, want) {
				t.Fatalf("%v, not %v, of %v", got, want, e)
			}
			if len(got) > 0 && !isKnot(x, s, got) {
				t.Fatalf("%v is no knot of %+v", got, s)
			}
			if was && len(got) == 0 {
				gone++
			}
			was = len(got) > 0
			if was && c.next(16) == 0 {
				m.Kill(got[c.next(len(got))])
			}
			knots += min(len(got), 1)
			long += len(got) / 3
		}
	}
	if knots < 1000 || long < 150 || gone < 100 {
		t.Errorf("%d rings, %d long ones, %d gone by a kill", knots, long, gone)
	}
}

// isKnot tells whether each of those processes waits for a lock that the next one holds, and the last one for one of the first.
func isKnot(c api.Config, s api.State, ring []int) bool {
	for i, p := range ring {
		part := s.Parts[c.Procs[p].Part]
		lock := slices.IndexFunc(part.Queues, func(q []int) bool { return slices.Contains(q, p) })
		if lock < 0 || part.Owners[lock] != ring[(i+1)%len(ring)] || s.Procs[p].State != api.WaitLock {
			return false
		}
	}
	return true
}

// A knot that was laid, not come to, is told, even where all programs are valid.
func TestAKnotOfValidProgramsThatWasLaid(t *testing.T) {
	c := one(of(0, "lock 0"), of(0, "lock 1"))
	s := start(t, c).State()
	s.Parts[0].Owners, s.Parts[0].Queues = []int{1, 0, -1}, [][]int{{0}, {1}, nil}
	s.Procs[0].State, s.Procs[1].State = api.WaitLock, api.WaitLock
	if e := machine.May(c, s); e != api.OK {
		t.Fatalf("machine.May: %d", e)
	}
	tell(t, c, s, list(0, 1, 1, 0), list(0, 1, 1, 0))
	rings(t, Locked(c, s), 0, 1)
}
