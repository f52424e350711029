package delay

import (
	"fmt"
	"slices"
	"strings"
	"testing"

	"firebreak/api"
	"firebreak/valid"
)

// P21.4 (W4): messages are taken within the bound.

// calm are pieces of programs that never make wait; what is sent goes to another partition, or to nobody, N being such a number.
var calm = [][]string{
	{"now r1"},
	{"set r2 N", "send r7 r2 r1"},
	{"set r2 9", "timer r2"},
	{"out r1"},
	{"unlock 0"},
}

// receiver makes a program that takes messages again and again, and tells within how many units it surely does so. Others are the processes of other partitions, and some number of nobody.
func (c *chance) receiver(others []int) ([]string, int) {
	var lines []string
	takes := 0
	for range 1 + c.next(4) {
		if takes == 0 || c.next(2) == 0 {
			lines = append(lines, []string{"recv r4 r5", "try r4 r5"}[c.next(2)])
			takes++
		}
		to := fmt.Sprint(others[c.next(len(others))])
		for _, line := range calm[c.next(len(calm))] {
			lines = append(lines, strings.ReplaceAll(line, "N", to))
		}
	}
	lines = append(lines, "jump 0")
	return lines, longest(lines)
}

// longest is the most units from one taking of messages to the next one, of lines that are gone through round and round.
func longest(lines []string) int {
	most, last := 0, -1
	for i, line := range slices.Concat(lines, lines) {
		if strings.HasPrefix(line, "recv") || strings.HasPrefix(line, "try") {
			most, last = max(most, i-last), i
		}
	}
	return most
}

// listeners makes a config some of whose processes are such as P21.4 has them: those of which f tells within how many units they take messages.
func (c *chance) listeners() (x api.Config, f map[int]int) {
	x = c.config()
	f = map[int]int{}
	for p := range x.Procs {
		if c.next(2) == 0 {
			continue
		}
		others := []int{-1, len(x.Procs)}
		for q, own := range x.Procs {
			if own.Part != x.Procs[p].Part {
				others = append(others, q)
			}
		}
		var lines []string
		lines, f[p] = c.receiver(others)
		x.Procs[p] = of(x.Procs[p].Part, lines...)
	}
	return x, f
}

// inTime tells whether something that came at a time, and was gone at another one (-1: never), took so many ticks at most, when it is asked at the end.
func inTime(came, gone, end, bound int64) bool {
	if gone < 0 {
		return end-came < bound
	}
	return gone-came <= bound
}

func TestMessagesAreTakenWithinReceive(t *testing.T) {
	c := chance(3)
	messages, places, waiting, close := 0, 0, 0, 0
	for range 1500 {
		x, f := c.listeners()
		var spared []int
		for p := range f {
			spared = append(spared, p)
		}
		l := c.script(len(x.Procs), 10+c.next(60), spared...)
		end := drive(t, x, l)
		got, _ := watched(t, x, l...)
		for _, m := range got {
			if f[m.Proc] == 0 {
				continue
			}
			bound := Receive(x, x.Procs[m.Proc].Part, m.Place, f[m.Proc])
			if bound == 0 {
				continue
			}
			now := end[len(end)-1].time
			if !inTime(m.In, m.Out, now, bound) {
				t.Fatalf("%+v at %d, not within %d: %+v %v", m, now, bound, x, l)
			}
			messages++
			places += min(m.Place, 1)
			if m.Out < 0 {
				waiting++
			} else if 2*(m.Out-m.In) > bound {
				close++
			}
		}
	}
	if messages < 5000 || places < 500 || waiting < 500 || close < 500 {
		t.Errorf("%d messages, %d behind others, %d that are there yet, %d that took more than half the bound", messages, places, waiting, close)
	}
}

// The bound is come to: a message of the own lane is taken first, each with a jump ahead of it.
func TestReceiveIsComeTo(t *testing.T) {
	c := one(1, of(0, "self r0", "send r1 r0 r0", "send r1 r0 r0", "recv r2 r3", "jump 3"))
	tell(t, c, steps(inject(0, 1), tick(6), inject(0, 2), tick(4)), []Message{{0, 1, 0, 0, 6}, {0, 0, 0, 2, 4}, {0, 0, 1, 3, 8}, {0, 1, 0, 6, 10}}, nil)
	if bound := Receive(c, 0, 0, 2); bound != 10-6 {
		t.Errorf("the bound: %d", bound)
	}
}

// Nobody is served by others of the partition that end, wait or sleep: the bound stays.
func TestReceiveHoldsWhateverTheOthersDo(t *testing.T) {
	busy := []string{"jump 0"}
	for _, other := range [][]string{busy, {"exit"}, {"recv r0 r1"}, {"sleep r0", "jump 0"}, {"lock 0", "jump 1"}, {"lock 0"}, {"set r0 0", "send r7 r0 r0", "jump 1"}} {
		for fuel := 1; fuel <= 9; fuel++ {
			c := changed(two(fuel, of(1, "recv r4 r5", "now r1", "jump 0"), of(1, other...), of(1, busy...), of(0, "set r0 0", "send r7 r0 r0", "jump 1")), func(c *api.Config) { c.Table = []int{0, 1, 0} })
			l := steps(inject(0, 1), tick(7), inject(0, 2), inject(0, 3), tick(13), inject(0, 4), tick(50))
			messages, _ := watched(t, c, l...)
			for _, m := range messages {
				if bound := Receive(c, 1, m.Place, 3); m.Proc == 0 && !inTime(m.In, m.Out, 70, bound) {
					t.Errorf("fuel %d, %v: %+v, not within %d", fuel, other, m, bound)
				}
			}
			if len(messages) < 8 {
				t.Errorf("fuel %d, %v: %v", fuel, other, messages)
			}
		}
	}
}

// P21.5 (W5): locks are had within the bound.

// quiet are lines that may stand where a lock is held; loud ones may not: they may wait.
var (
	quiet = []string{"now r1", "try r4 r5", "out r1", "timer r1", "self r6"}
	loud  = []string{"set r0 1", "send r7 r0 r1", "recv r4 r5", "set r2 2", "sleep r2"}
)

// hold makes lines that take locks in rising order and give them.
func (c *chance) hold(locks int) []string {
	var lines []string
	var held []int
	least := 0
	for range 3 + c.next(6) {
		lock := least + c.next(2)
		switch k := c.next(5); {
		case k < 3 && lock < locks:
			lines = append(lines, fmt.Sprintf("lock %d", lock))
			held = append(held, lock)
			least = lock + 1
		case k == 3 && len(held) > 0:
			i := c.next(len(held))
			lines = append(lines, fmt.Sprintf("unlock %d", held[i]))
			held = slices.Delete(held, i, i+1)
			least = 0
			if len(held) > 0 {
				least = slices.Max(held) + 1
			}
		default:
			lines = append(lines, quiet[c.next(len(quiet))])
		}
	}
	if c.next(16) == 0 {
		return append(lines, "exit")
	}
	for _, lock := range held {
		lines = append(lines, fmt.Sprintf("unlock %d", lock))
	}
	return lines
}

// holders makes a config of processes that take and give locks, with fuel for one instruction a slot, and tells how long they hold them at most.
func (c *chance) holders() (api.Config, int) {
	x := api.Config{Labels: []uint64{0, 1}[:1+c.next(2)], Table: []int{0}, Fuel: 1, Lane: 1, Locks: 1 + c.next(4)}
	if len(x.Labels) == 2 {
		x.Table = append(x.Table, c.next(2), 1)
	}
	hold := 1
	for procs := 2 + c.next(5); len(x.Procs) < procs; {
		var lines []string
		for range 1 + c.next(3) {
			for range c.next(3) {
				lines = append(lines, loud[c.next(len(loud))])
			}
			lines = append(lines, c.hold(x.Locks)...)
		}
		own := of(c.next(len(x.Labels)), append(lines, "jump 0")...)
		most, e, at := valid.Longest(own.Code, x.Locks)
		if e != api.OK {
			panic(fmt.Sprintf("%v: %d at %d", lines, e, at))
		}
		hold = max(hold, most)
		x.Procs = append(x.Procs, own)
	}
	return x, hold
}

func TestLocksAreHadWithinLock(t *testing.T) {
	c := chance(4)
	grants, waiting, close := 0, 0, 0
	for range 1200 {
		x, hold := c.holders()
		var l []api.Step
		for range 40 {
			l = append(l, inject(c.next(len(x.Procs)), 1), tick(1+c.next(9)))
			if c.next(40) == 0 {
				l = append(l, kill(c.next(len(x.Procs))))
			}
		}
		end := drive(t, x, l)
		_, got := watched(t, x, l...)
		for _, g := range got {
			bound, now := Lock(x, x.Procs[g.Proc].Part, g.Lock, hold), end[len(end)-1].time
			if bound == 0 || !inTime(g.Asked, g.Had, now, bound) {
				t.Fatalf("%+v at %d, not within %d: %+v %v", g, now, bound, x, l)
			}
			grants++
			if g.Had < 0 {
				waiting++
			} else if 4*(g.Had-g.Asked) > bound {
				close++
			}
		}
	}
	if grants < 5000 || waiting < 100 || close < 200 {
		t.Errorf("%d grants, %d that are not had yet, %d that took more than a quarter of the bound", grants, waiting, close)
	}
}

// Where programs are not valid, locks may never be had.
func TestLocksThatAreNeverHad(t *testing.T) {
	c := changed(one(1, of(0, "lock 0", "jump 1"), of(0, "lock 0")), func(c *api.Config) { c.Locks = 1 })
	if e, _ := valid.Check(c.Procs[0].Code, c.Locks, api.MaxHold); e != api.ErrLong {
		t.Errorf("valid.Check: %d", e)
	}
	_, grants := watched(t, c, tick(1000))
	if bound := Lock(c, 0, 0, api.MaxHold); len(grants) != 1 || inTime(grants[0].Asked, grants[0].Had, 1000, bound) {
		t.Errorf("%v within %d", grants, bound)
	}
}

// The longest hold that may be, of as many as there may be that want it, one behind the other.
func TestManyWaitForOneLock(t *testing.T) {
	holder := of(0, slices.Concat([]string{"lock 0"}, slices.Repeat([]string{"now r1"}, api.MaxHold-1), []string{"unlock 0", "jump 0"})...)
	c := changed(one(1), func(c *api.Config) { c.Locks, c.Procs = 1, slices.Repeat([]api.Proc{holder}, api.MaxProcs) })
	if e, _ := valid.Check(holder.Code, 1, api.MaxHold); e != api.OK {
		t.Fatalf("valid.Check: %d", e)
	}
	_, grants := watched(t, c, tick(9000))
	had := 0
	for _, g := range grants {
		if bound := Lock(c, 0, 0, api.MaxHold); !inTime(g.Asked, g.Had, 9000, bound) {
			t.Errorf("%+v, not within %d", g, bound)
		}
		if g.Had >= 0 {
			had++
		}
	}
	// Who has it holds it for 64 ticks, in which nobody else is Ready but who gave it, till they ask again.
	if had < 100 || grants[0].Had-grants[0].Asked < 64 || grants[30].Had-grants[30].Asked < 31*64 {
		t.Errorf("%d had: %v", had, grants)
	}
}
