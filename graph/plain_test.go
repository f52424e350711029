package graph

import (
	"cmp"
	"fmt"
	"math"
	"slices"
	"strings"
	"testing"

	"firebreak/api"
	"firebreak/asm"
	"firebreak/conf"
	"firebreak/machine"
)

// of is a process of a partition, whose program's lines are told.
func of(part int, lines ...string) api.Proc {
	text := ""
	for _, l := range lines {
		text += l + "\n"
	}
	code, e, line, at := asm.Parse(text)
	if e != api.OK {
		panic(fmt.Sprintf("%q: %d in line %d at %d", text, e, line, at))
	}
	return api.Proc{Part: part, Code: code}
}

// one is a config of one partition, with fuel for one instruction a slot.
func one(procs ...api.Proc) api.Config {
	return api.Config{Labels: []uint64{7}, Table: []int{0}, Fuel: 1, Lane: 1, Locks: 3, Log: 4, Procs: procs}
}

// two is a config of two partitions, of which the first one flows to the other one, with fuel for one instruction a slot.
func two(procs ...api.Proc) api.Config {
	return api.Config{Labels: []uint64{0, 1}, Table: []int{0, 1}, Fuel: 1, Lane: 1, Locks: 3, Log: 4, Procs: procs}
}

// crossed is a config of two processes that take two locks crosswise, and one that sends to itself till its lane is full.
func crossed() api.Config {
	return one(of(0, "lock 0", "now r1", "lock 1"), of(0, "lock 1", "now r1", "lock 0"), of(0, "self r0", "send r1 r0 r0", "send r1 r0 r0"))
}

// start makes a machine.
func start(t *testing.T, c api.Config) *machine.Machine {
	t.Helper()
	m, e := machine.New(c)
	if e != api.OK {
		part, _ := conf.May(c)
		t.Fatalf("machine.New(%+v): %d at %d", c, e, part)
	}
	return m
}

// run makes a machine, and lets it do so many slots.
func run(t *testing.T, c api.Config, ticks int) *machine.Machine {
	t.Helper()
	m := start(t, c)
	for range ticks {
		m.Tick()
	}
	return m
}

// list is a short form of edges: of each its two numbers.
func list(numbers ...int) [][2]int {
	var l [][2]int
	for pair := range slices.Chunk(numbers, 2) {
		l = append(l, [2]int(pair))
	}
	return l
}

// tell asks for the edges of a state, and for those of locks.
func tell(t *testing.T, c api.Config, s api.State, all, locked [][2]int) {
	t.Helper()
	if got := Edges(c, s); !slices.Equal(got, all) {
		t.Fatalf("Edges: %v, not %v: %+v", got, all, s)
	}
	if got := Locked(c, s); !slices.Equal(got, locked) {
		t.Fatalf("Locked: %v, not %v: %+v", got, locked, s)
	}
}

// none asks for no edges.
func none(t *testing.T, c api.Config, s api.State) {
	t.Helper()
	if got := Edges(c, s); len(got) > 0 {
		t.Fatalf("Edges: %v: %+v %+v", got, c, s)
	}
	if got := Locked(c, s); len(got) > 0 {
		t.Fatalf("Locked: %v: %+v %+v", got, c, s)
	}
}

// plainLocked and plainEdges go by the queues and by those who stand at the lanes, not by the processes.
func plainLocked(s api.State) [][2]int {
	var l [][2]int
	for _, part := range s.Parts {
		for lock, queue := range part.Queues {
			for _, p := range queue {
				l = append(l, [2]int{p, part.Owners[lock]})
			}
		}
	}
	return byFirst(l)
}

func plainEdges(s api.State) [][2]int {
	l := plainLocked(s)
	for q, proc := range s.Procs {
		for _, lane := range proc.Lanes {
			for _, w := range lane.Waiters {
				l = append(l, [2]int{w.Proc, q})
			}
		}
	}
	return byFirst(l)
}

func byFirst(l [][2]int) [][2]int {
	slices.SortFunc(l, func(a, b [2]int) int { return cmp.Compare(a[0], b[0]) })
	return l
}

// plainNext is the least number to which a number has an edge.
func plainNext(e [][2]int, p int) (int, bool) {
	var all []int
	for _, x := range e {
		if x[0] == p {
			all = append(all, x[1])
		}
	}
	if len(all) == 0 {
		return 0, false
	}
	return slices.Min(all), true
}

// plainRing goes each way from its beginning on, whatever ways were gone ahead of it.
func plainRing(e [][2]int) []int {
	var from []int
	for _, x := range e {
		from = append(from, x[0])
	}
	slices.Sort(from)
	for _, p := range from {
		way := []int{p}
		for q, goes := plainNext(e, p); goes; q, goes = plainNext(e, q) {
			if at := slices.Index(way, q); at >= 0 {
				ring := way[at:]
				least := slices.Index(ring, slices.Min(ring))
				return slices.Concat(ring[least:], ring[:least])
			}
			way = append(way, q)
		}
	}
	return nil
}

// rings asks for a ring of edges.
func rings(t *testing.T, e [][2]int, want ...int) {
	t.Helper()
	if got := Ring(e); !slices.Equal(got, want) {
		t.Errorf("Ring(%v): %v, not %v", e, got, want)
	}
}

// isRing tells whether numbers, none twice, each have an edge to the next one, and the last one to the first.
func isRing(e [][2]int, ring []int) bool {
	for i, p := range ring {
		if slices.Contains(ring[:i], p) || !slices.Contains(e, [2]int{p, ring[(i+1)%len(ring)]}) {
			return false
		}
	}
	return len(ring) > 0
}

// wild are numbers of nothing; some have a small one as their lowest bytes.
var wild = []int{-1, -2, -8, -32, -256, -1 << 32, 1 - 1<<32, math.MinInt, math.MinInt + 1, 40, 64, 255, 256, 257, 1 << 16, 1 << 31, 1 << 32, 1<<32 + 1, 1 << 62, math.MaxInt - 1, math.MaxInt}

// chance makes numbers that look like chance, the same ones each time.
type chance uint64

func (c *chance) next(n int) int {
	*c = *c*6364136223846793005 + 1442695040888963407
	return int(uint64(*c)>>33) % n
}

// shuffled is a list in another order, in new memory.
func shuffled[T any](c *chance, l []T) []T {
	l = slices.Clone(l)
	for i := range l {
		j := i + c.next(len(l)-i)
		l[i], l[j] = l[j], l[i]
	}
	return l
}

// programs are such as wait for one another; in the place of N there comes a number of a process, in that of L and K those of locks.
var programs = [][]string{
	{},
	{"jump 0"},
	{"recv r4 r5", "jump 0"},
	{"set r0 N", "sleep r0", "jump 1"},
	{"set r0 N", "send r7 r0 r7", "jump 1"},
	{"set r0 N", "send r7 r0 r1", "add r1 r1 r0", "recv r4 r5", "jump 1"},
	{"self r0", "send r7 r0 r0", "try r1 r2", "jump 1"},
	{"self r0", "send r7 r0 r0", "jump 1"},
	{"lock L", "now r1", "unlock L", "jump 0"},
	{"lock L", "now r1", "lock K", "unlock L", "unlock K", "jump 0"},
	{"lock L", "set r0 N", "send r7 r0 r0", "unlock L", "jump 0"},
	{"lock L", "recv r4 r5", "exit"},
	{"lock L", "lock K", "set r0 3", "sleep r0", "jump 0"},
}

// config makes one that may be.
func (c *chance) config() api.Config {
	x := api.Config{Fuel: 1 + c.next(4), Lane: 1 + c.next(2), Locks: 2 + c.next(2), Log: c.next(8)}
	label := uint64(c.next(2))
	for range 1 + c.next(3) {
		x.Labels = append(x.Labels, label)
		label += uint64(1 + c.next(4))
	}
	for range 1 + c.next(6) {
		x.Table = append(x.Table, c.next(len(x.Labels)))
	}
	for procs := 1 + c.next(12); len(x.Procs) < procs; {
		in := strings.NewReplacer("N", fmt.Sprint(c.next(procs+2)-1), "L", fmt.Sprint(c.next(x.Locks)), "K", fmt.Sprint(c.next(x.Locks)))
		lines := slices.Clone(programs[c.next(len(programs))])
		for i := range lines {
			lines[i] = in.Replace(lines[i])
		}
		x.Procs = append(x.Procs, of(c.next(len(x.Labels)), lines...))
	}
	return x
}

// drive does something to a machine: most often a slot.
func (c *chance) drive(m *machine.Machine, procs int) {
	switch c.next(24) {
	case 0:
		m.Kill(c.next(procs*6) - 1)
	case 1, 2:
		m.Inject(c.next(procs+1)-1, int64(c.next(9)))
	default:
		m.Tick()
	}
}
