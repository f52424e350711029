package delay

import (
	"math"
	"math/big"
	"slices"
	"testing"

	"firebreak/api"
)

// chapter is the config of the chapter's examples.
func chapter() api.Config {
	return api.Config{Labels: []uint64{0, 1, 2}, Table: []int{2, 0, 2, 1}, Fuel: 2, Lane: 4, Locks: 2, Procs: []api.Proc{{Part: 0}, {Part: 2}, {Part: 2}}}
}

// full is a config of one partition that has all there may be, but for one instruction a slot.
func full() api.Config {
	c := one(1)
	c.Lane, c.Locks, c.Procs = api.MaxLane, api.MaxLocks, make([]api.Proc, api.MaxProcs)
	return c
}

// receives and locks ask for one bound each, and for what the plain way to it tells.
func receives(t *testing.T, c api.Config, part, place, f int, want int64) {
	t.Helper()
	if got, plain := Receive(c, part, place, f), plainReceive(c, part, place, f); got != want || plain != want {
		t.Errorf("Receive(.., %d, %d, %d): %d, not %d: %d", part, place, f, got, want, plain)
	}
}

func locks(t *testing.T, c api.Config, part, lock, hold int, want int64) {
	t.Helper()
	if got, plain := Lock(c, part, lock, hold), plainLock(c, part, lock, hold); got != want || plain != want {
		t.Errorf("Lock(.., %d, %d, %d): %d, not %d: %d", part, lock, hold, got, want, plain)
	}
}

func TestLimits(t *testing.T) {
	for _, x := range []struct{ got, want int }{
		{api.MaxParts, 8}, {api.MaxProcs, 32}, {api.MaxTable, 64}, {api.MaxFuel, 256}, {api.MaxLane, 64}, {api.MaxLocks, 8}, {api.MaxHold, 64},
		{api.MaxSteps, 1024}, {api.MaxTicks, 65536}, {api.MaxCount, 65535},
		{int(api.OK), 0}, {int(api.ErrArg), 1}, {int(api.ErrRange), 2}, {int(api.ErrMany), 3},
		{api.StepTick, 1}, {api.StepInject, 2}, {api.StepKill, 3},
	} {
		if x.got != x.want {
			t.Errorf("%d, not %d", x.got, x.want)
		}
	}
}

// P21.1: Receive.

func TestReceiveExamples(t *testing.T) {
	c := chapter()
	receives(t, c, 2, 0, 3, 18)
	receives(t, c, 2, 1, 3, 36)
	receives(t, c, 0, 0, 1, 4)
	receives(t, c, 1, 0, 1, 0)
	receives(t, c, 3, 0, 1, 0)
	receives(t, c, 2, 4, 1, 0)
	receives(t, c, 2, 0, 0, 0)
}

func TestReceiveOfGreatestPlaceAndF(t *testing.T) {
	c := chapter()
	receives(t, c, 2, 3, 1, 24)
	receives(t, c, 2, 4, 1, 0)
	receives(t, c, 2, -1, 1, 0)
	receives(t, c, 2, 0, -1, 0)
	receives(t, c, 2, 0, math.MinInt, 0)
	receives(t, c, 2, math.MaxInt, 1, 0)
	receives(t, c, 2, math.MinInt, 1, 0)
	for lane := 1; lane <= api.MaxLane; lane++ {
		c.Lane = lane
		receives(t, c, 0, lane-1, 1, int64(lane)*4)
		receives(t, c, 0, lane, 1, 0)
	}
	// 2 units a tick, Gap 4.
	most := int64(math.MaxInt64)
	receives(t, c, 0, 0, math.MaxInt, most)
	receives(t, c, 0, 0, math.MaxInt-1, most)
	receives(t, c, 0, 0, 1<<61-1, 1<<63-4)
	receives(t, c, 0, 0, 1<<61, most)
	receives(t, c, 0, 0, 1<<61+1, most)
}

// A lane of an own message and one that is injected: twice f units, of each of the processes.
func TestReceiveStaysAtTheGreatest(t *testing.T) {
	c := one(1, of(0))
	most := int64(math.MaxInt64)
	receives(t, c, 0, 0, 1<<62-1, most-1)
	receives(t, c, 0, 0, 1<<62, most)
	receives(t, c, 0, 0, 1<<62+1, most)
	receives(t, c, 0, 1, 1<<61-1, 1<<63-4)
	receives(t, c, 0, 1, 1<<61, most)
	receives(t, c, 0, 1, math.MaxInt, most)
	// Units that stay at the greatest are shared out among the ticks.
	c.Fuel = 2
	receives(t, c, 0, 0, 1<<62-1, 1<<62-1)
	receives(t, c, 0, 0, 1<<62, 1<<62)
	receives(t, c, 0, 0, math.MaxInt, 1<<62)
	c.Fuel = api.MaxFuel
	receives(t, c, 0, 0, math.MaxInt, 1<<55)
	c.Table = []int{0}
	for range 63 {
		c.Labels = []uint64{7, 8}
		c.Table = append(c.Table, 1)
	}
	receives(t, c, 0, 0, math.MaxInt, 1<<61)
}

// 2^63 - 1 is 49 times something: seven lanes of seven processes come to it.
func TestReceiveComesToTheGreatest(t *testing.T) {
	most := int64(math.MaxInt64)
	c := changed(one(1), func(c *api.Config) {
		c.Labels, c.Table, c.Procs = []uint64{0, 1, 2, 4, 8, 15}, []int{5}, slices.Repeat([]api.Proc{{Part: 5}}, 7)
	})
	receives(t, c, 5, 0, math.MaxInt/49-1, most-49)
	receives(t, c, 5, 0, math.MaxInt/49, most)
	receives(t, c, 5, 0, math.MaxInt/49+1, most)
	c.Fuel = 2
	receives(t, c, 5, 0, math.MaxInt/49-1, 1<<62-25)
	receives(t, c, 5, 0, math.MaxInt/49, 1<<62)
	receives(t, c, 5, 0, math.MaxInt/49+1, 1<<62)

	// 2 * f units, two of them a tick, and seven ticks to a slot.
	c = changed(one(2, of(0)), func(c *api.Config) { c.Labels, c.Table = []uint64{7, 8}, []int{0, 1, 1, 1, 1, 1, 1} })
	receives(t, c, 0, 0, math.MaxInt/7-1, most-7)
	receives(t, c, 0, 0, math.MaxInt/7, most)
	receives(t, c, 0, 0, math.MaxInt/7+1, most)
}

// Who flows to a partition hangs on labels alone, whether it has slots and processes or not.
func TestReceiveCountsWhoFlows(t *testing.T) {
	c := api.Config{Labels: []uint64{0, 1, 2, 3, 4, 5, 6, 1<<63 | 7}, Table: []int{0, 1, 2, 3, 4, 5, 6, 7}, Fuel: 1, Lane: 1}
	for part, lanes := range []int64{2, 3, 3, 5, 3, 5, 5, 9} {
		c.Procs = []api.Proc{{Part: part}}
		receives(t, c, part, 0, 1, 8*lanes)
		c.Table = []int{part}
		receives(t, c, part, 0, 1, lanes)
		c.Table = []int{0, 1, 2, 3, 4, 5, 6, 7}
	}
	apart := api.Config{Labels: []uint64{1, 2, 4, 1 << 63}, Table: []int{3, 0}, Fuel: 1, Lane: 1, Procs: []api.Proc{{Part: 0}, {Part: 3}, {Part: 3}}}
	receives(t, apart, 0, 0, 1, 4)
	receives(t, apart, 3, 0, 1, 8)
}

func TestReceiveCountsProcesses(t *testing.T) {
	c := full()
	for n := 1; n <= api.MaxProcs; n++ {
		c.Procs = make([]api.Proc, n)
		receives(t, c, 0, 0, 1, int64(2*n))
		receives(t, c, 0, 9, 5, int64(2*n*50))
	}
	c.Procs = make([]api.Proc, api.MaxProcs+1)
	receives(t, c, 0, 0, 1, 0)
}

// 6 units, of which so many are done a tick.
func TestReceiveRoundsUp(t *testing.T) {
	c := changed(two(1, of(0), of(1)), func(c *api.Config) { c.Table = []int{0, 1, 1, 1, 0} })
	for fuel, ticks := range []int64{0, 6, 3, 2, 2, 2, 1, 1, 1} {
		c.Fuel = fuel
		receives(t, c, 1, 0, 2, ticks*3)
		receives(t, c, 0, 0, 3, ticks*4)
	}
	c.Fuel = api.MaxFuel
	receives(t, c, 0, 0, 3, 4)
	receives(t, c, 0, 0, 128, 4)
	receives(t, c, 0, 0, 129, 8)
	c.Fuel = api.MaxFuel + 1
	receives(t, c, 0, 0, 3, 0)
}

func TestReceiveGoesByTheGap(t *testing.T) {
	c := two(1, of(0), of(1))
	for _, x := range []struct {
		table     []int
		low, high int64
	}{
		{[]int{0}, 2, 0}, {[]int{1}, 0, 3}, {[]int{0, 1}, 4, 6}, {[]int{0, 0, 1}, 4, 9}, {[]int{1, 1, 0, 1, 0, 0}, 6, 9}, {[]int{0, 1, 1, 1, 0}, 8, 9},
		{append(slices.Repeat([]int{0}, 63), 1), 4, 192},
	} {
		c.Table = x.table
		receives(t, c, 0, 0, 1, x.low)
		receives(t, c, 1, 0, 1, x.high)
	}
}

// P21.2: Lock.

func TestLockExamples(t *testing.T) {
	c := chapter()
	locks(t, c, 2, 1, 3, 8)
	locks(t, c, 2, 0, 3, 28)
	locks(t, c, 0, 0, 3, 4)
	locks(t, c, 2, 2, 3, 0)
	locks(t, c, 2, 0, 0, 0)
	locks(t, c, 2, 0, 65, 0)
}

func TestLockOfGreatestLockAndHold(t *testing.T) {
	c := one(1, of(0), of(0))
	for n := 0; n <= api.MaxLocks; n++ {
		c.Locks = n
		locks(t, c, 0, n, 1, 0)
		locks(t, c, 0, -1, 1, 0)
		if n > 0 {
			locks(t, c, 0, n-1, 1, 3)
			locks(t, c, 0, n-1, 64, 129)
		}
	}
	locks(t, c, 0, 0, 1, 24)
	locks(t, c, 0, 0, 63, plainLock(c, 0, 0, 63))
	locks(t, c, 0, 7, 63, 127)
	locks(t, c, 0, 7, 64, 129)
	locks(t, c, 0, 7, 65, 0)
	locks(t, c, 0, 7, 0, 0)
	locks(t, c, 0, 7, -1, 0)
	locks(t, c, 0, 7, math.MaxInt, 0)
	locks(t, c, 0, 7, math.MinInt, 0)
	locks(t, c, 0, math.MaxInt, 1, 0)
	locks(t, c, 0, math.MinInt, 1, 0)
	c.Locks = api.MaxLocks + 1
	locks(t, c, 0, 0, 1, 0)
}

// Each lock's bound is made of that of the one above it, with so many processes.
func TestLockOfAllLocks(t *testing.T) {
	c := full()
	for n := 1; n <= api.MaxProcs; n++ {
		c.Procs = make([]api.Proc, n)
		for hold := 1; hold <= api.MaxHold; hold++ {
			above := new(big.Int)
			for lock := api.MaxLocks - 1; lock >= 0; lock-- {
				above.Add(above, big.NewInt(int64(n)))
				above.Mul(above, big.NewInt(int64(hold*(n-1))))
				above.Add(above, big.NewInt(1))
				locks(t, c, 0, lock, hold, limited(above).Int64())
			}
		}
	}
	// Alone nobody waits for anybody.
	c.Procs = make([]api.Proc, 1)
	for lock := range api.MaxLocks {
		locks(t, c, 0, lock, 64, 1)
	}
}

func TestLockStaysAtTheGreatest(t *testing.T) {
	c := full()
	most := int64(math.MaxInt64)
	locks(t, c, 0, 4, 64, 31*64*(32+31*64*(32+31*64*(32+31*64*32+1)+1)+1)+1)
	locks(t, c, 0, 3, 64, 31*64*(32+31*64*(32+31*64*(32+31*64*(32+31*64*32+1)+1)+1)+1)+1)
	for lock := range 3 {
		locks(t, c, 0, lock, 64, most)
	}
	c.Fuel = 2
	locks(t, c, 0, 0, 64, 1<<62)
	c.Fuel = 3
	locks(t, c, 0, 0, 64, (math.MaxInt-1)/3+1)
	c.Fuel = api.MaxFuel
	locks(t, c, 0, 0, 64, 1<<55)
	c.Labels, c.Table = []uint64{7, 15}, append(make([]int, 1), slices.Repeat([]int{1}, 63)...)
	locks(t, c, 0, 0, 64, 1<<61)
	c.Fuel = 1
	locks(t, c, 0, 0, 64, most)
	locks(t, c, 0, 3, 64, plainLock(c, 0, 3, 64))
}

// Two processes: 7 units of the lock 1, and 28 of the lock 0.
func TestLockRoundsUpAndGoesByTheGap(t *testing.T) {
	c := changed(chapter(), func(c *api.Config) { c.Table = []int{1, 2, 2, 0, 1, 0} })
	for fuel, ticks := range [][2]int64{{}, {7, 27 + 1}, {4, 14}, {3, 10}, {2, 7}, {2, 6}, {2, 5}, {1, 4}, {1, 4}} {
		c.Fuel = fuel
		locks(t, c, 2, 1, 3, ticks[0]*5)
		locks(t, c, 2, 0, 3, ticks[1]*5)
	}
	c.Fuel = 27
	locks(t, c, 2, 0, 3, 10)
	c.Fuel = 28
	locks(t, c, 2, 0, 3, 5)
	c.Fuel = api.MaxFuel
	locks(t, c, 2, 0, 3, 5)
	c.Table = []int{2, 1, 1, 1}
	locks(t, c, 2, 0, 3, 4)
	locks(t, c, 0, 0, 3, 0)
}

// P21.1, P21.2: what is not promised.

// refusedConfigs are such as may not be.
func refusedConfigs() []api.Config {
	var l []api.Config
	add := func(change func(c *api.Config)) { l = append(l, changed(chapter(), change)) }
	add(func(c *api.Config) { c.Labels = nil })
	add(func(c *api.Config) { c.Labels = []uint64{0, 1, 2, 3, 4, 5, 6, 7, 8} })
	add(func(c *api.Config) { c.Labels[1] = 0 })
	add(func(c *api.Config) { c.Labels[0] = 5 })
	add(func(c *api.Config) { c.Table = nil })
	add(func(c *api.Config) { c.Table = make([]int, api.MaxTable+1) })
	add(func(c *api.Config) { c.Table[3] = 3 })
	add(func(c *api.Config) { c.Table[3] = -1 })
	add(func(c *api.Config) { c.Fuel = 0 })
	add(func(c *api.Config) { c.Fuel = -1 })
	add(func(c *api.Config) { c.Fuel = api.MaxFuel + 1 })
	add(func(c *api.Config) { c.Lane = 0 })
	add(func(c *api.Config) { c.Lane = api.MaxLane + 1 })
	add(func(c *api.Config) { c.Locks = -1 })
	add(func(c *api.Config) { c.Locks = api.MaxLocks + 1 })
	add(func(c *api.Config) { c.Log = -1 })
	add(func(c *api.Config) { c.Log = api.MaxLog + 1 })
	add(func(c *api.Config) { c.Procs = nil })
	add(func(c *api.Config) { c.Procs = make([]api.Proc, api.MaxProcs+1) })
	add(func(c *api.Config) { c.Procs[0].Part = 3 })
	add(func(c *api.Config) { c.Procs[0].Part = -1 })
	add(func(c *api.Config) { c.Procs[0].Code = make([]api.Ins, api.MaxCode+1) })
	add(func(c *api.Config) { c.Procs[0].Code = []api.Ins{{Op: api.Ops}} })
	add(func(c *api.Config) { c.Procs[0].Code = []api.Ins{{Op: api.OpSet, A: 8}} })
	add(func(c *api.Config) { c.Procs[0].Code = []api.Ins{{Op: api.OpExit, A: 1}} })
	add(func(c *api.Config) { c.Procs[0].Code = []api.Ins{{Op: api.OpJump, Imm: 2}} })
	add(func(c *api.Config) { c.Procs[0].Code = []api.Ins{{Op: api.OpLock, Imm: 2}} })
	return append(l, api.Config{})
}

func TestNothingIsPromisedOfConfigsThatMayNotBe(t *testing.T) {
	for i, c := range refusedConfigs() {
		for part := -1; part < 9; part++ {
			if got := Receive(c, part, 0, 1); got != 0 {
				t.Errorf("number %d: Receive(.., %d, 0, 1): %d", i, part, got)
			}
			if got := Lock(c, part, 0, 1); got != 0 {
				t.Errorf("number %d: Lock(.., %d, 0, 1): %d", i, part, got)
			}
		}
	}
}

func TestNothingIsPromisedToAPartitionWithoutSlotsOrProcesses(t *testing.T) {
	c := chapter()
	for part := range 3 {
		c.Procs = []api.Proc{{Part: (part + 1) % 3}}
		receives(t, c, part, 0, 1, 0)
		locks(t, c, part, 0, 1, 0)
		c.Procs = append(c.Procs, api.Proc{Part: part})
		c.Table = []int{(part + 1) % 3, (part + 2) % 3}
		receives(t, c, part, 0, 1, 0)
		locks(t, c, part, 0, 1, 0)
		c.Table = append(c.Table, part)
		if Receive(c, part, 0, 1) == 0 || Lock(c, part, 0, 1) == 0 {
			t.Errorf("nothing is promised to %d", part)
		}
	}
	c = chapter()
	for _, part := range append([]int{3, 4, 8, 64}, wild...) {
		receives(t, c, part, 0, 1, 0)
		locks(t, c, part, 0, 1, 0)
	}
}

func TestBoundsOfWildNumbers(t *testing.T) {
	c := full()
	for _, part := range append([]int{0, 1}, wild...) {
		for _, place := range append([]int{0, 63, 64}, wild...) {
			for _, f := range append([]int{0, 1}, wild...) {
				receives(t, c, part, place, f, plainReceive(c, part, place, f))
				locks(t, c, part, place, f, plainLock(c, part, place, f))
			}
		}
	}
}

// P21.1, P21.2: configs of chance.

func TestBoundsOfChance(t *testing.T) {
	c := chance(1)
	promised, greatest := 0, 0
	for range 4000 {
		x := c.config()
		x.Locks, x.Lane = c.next(api.MaxLocks+1), 1+c.next(api.MaxLane)
		for i := range x.Procs {
			x.Procs[i].Code = nil
		}
		for c.next(4) > 0 && len(x.Procs) < api.MaxProcs {
			x.Procs = append(x.Procs, api.Proc{Part: c.next(len(x.Labels) + c.next(50)/49)})
		}
		part, place, lock, hold := c.next(len(x.Labels)+1), c.next(x.Lane+1), c.next(x.Locks+1), c.next(api.MaxHold+2)
		f := c.next(1<<30)<<c.next(34) + c.next(9)
		receives(t, x, part, place, f, plainReceive(x, part, place, f))
		locks(t, x, part, lock, hold, plainLock(x, part, lock, hold))
		if plainReceive(x, part, place, f) > 0 && plainLock(x, part, lock, hold) > 0 {
			promised++
		}
		if plainReceive(x, part, place, f) == math.MaxInt64 {
			greatest++
		}
	}
	if promised < 1000 || greatest < 50 {
		t.Errorf("%d were promised, %d at the greatest number", promised, greatest)
	}
}
