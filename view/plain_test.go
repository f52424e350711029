package view

import (
	"fmt"
	"math"
	"reflect"
	"testing"

	"firebreak/api"
	"firebreak/asm"
	"firebreak/machine"
)

// labels are such as an observer may have; of some one is in the other.
var labels = []uint64{0, 1, 2, 3, 4, 5, 6, 7, 8, 1 << 31, 1<<32 - 1, 1 << 32, 1<<32 | 1, 1 << 63, 1<<63 | 1, 1<<63 - 1, math.MaxUint64 - 1, math.MaxUint64}

// wild are numbers of nothing; some have a small one as their lowest bytes.
var wild = []int{-1, -2, -3, -4, -8, -32, -256, -1 << 32, 1 - 1<<32, math.MinInt, math.MinInt + 1, 40, 64, 255, 256, 257, 1 << 16, 1 << 31, 1 << 32, 1<<32 + 1, 1 << 62, math.MaxInt - 1, math.MaxInt}

// plainSees and plainOf are the chapter, said plainly.
func plainSees(c api.Config, p int, a uint64) bool {
	for number, proc := range c.Procs {
		if number == p {
			return plainSeesPart(c, proc.Part, a)
		}
	}
	return false
}

func plainSeesPart(c api.Config, part int, a uint64) bool {
	for number, l := range c.Labels {
		if number == part {
			return plainFlows(l, a)
		}
	}
	return false
}

// plainFlows goes through all secrets.
func plainFlows(a, b uint64) bool {
	for secret := range 64 {
		if a>>secret&1 == 1 && b>>secret&1 == 0 {
			return false
		}
	}
	return true
}

func plainOf(c api.Config, s api.State, a uint64) api.State {
	s = clone(s)
	for i := range s.Parts {
		if !plainSeesPart(c, i, a) {
			s.Parts[i] = api.Part{}
		}
	}
	for i := range s.Procs {
		if !plainSees(c, i, a) {
			s.Procs[i] = api.Process{}
		}
	}
	return s
}

// stand is how a thing stands, as text; a list without elements is told in one way.
func stand(x any) string { return fmt.Sprintf("%+v", x) }

// whole is how a thing stands with the spare room of all its lists.
func whole[T any](x T) string {
	fresh(reflect.ValueOf(&x).Elem(), true)
	return stand(x)
}

// clone is a thing in new memory, without spare room.
func clone[T any](x T) T {
	fresh(reflect.ValueOf(&x).Elem(), false)
	return x
}

// fresh puts new memory in the place of all lists of a thing; with what is in their spare room, or without it.
func fresh(v reflect.Value, spare bool) {
	switch v.Kind() {
	case reflect.Struct:
		for i := range v.NumField() {
			fresh(v.Field(i), spare)
		}
	case reflect.Slice:
		if v.IsNil() {
			return
		}
		n := v.Len()
		if spare {
			n = v.Cap()
		}
		own := reflect.MakeSlice(v.Type(), n, n)
		reflect.Copy(own, v.Slice(0, n))
		v.Set(own)
		for i := range n {
			fresh(v.Index(i), spare)
		}
	}
}

// walk visits all lists, numbers and truths that a thing holds, in the spare room too if that is asked for, and tells the way to each.
func walk(v reflect.Value, way string, spare bool, visit func(way string, v reflect.Value)) {
	switch v.Kind() {
	case reflect.Struct:
		for i := range v.NumField() {
			walk(v.Field(i), way+"."+v.Type().Field(i).Name, spare, visit)
		}
		return
	case reflect.Array, reflect.Slice:
		if v.Kind() == reflect.Slice {
			visit(way, v)
			if spare {
				v = v.Slice(0, v.Cap())
			}
		}
		for i := range v.Len() {
			walk(v.Index(i), fmt.Sprintf("%s[%d]", way, i), spare, visit)
		}
		return
	}
	visit(way, v)
}

// each goes through all lists, numbers and truths of a thing.
func each[T any](x *T, visit func(way string, v reflect.Value)) {
	walk(reflect.ValueOf(x).Elem(), "", false, visit)
}

// fill puts numbers into all places of a thing, no two alike and none 0, and so many elements into each list, and some into its spare room.
func fill(v reflect.Value, size int, n *int64) {
	switch v.Kind() {
	case reflect.Struct:
		for i := range v.NumField() {
			fill(v.Field(i), size, n)
		}
	case reflect.Slice:
		v.Set(reflect.MakeSlice(v.Type(), size, size+2))
		for i := range v.Cap() {
			fill(v.Slice(0, v.Cap()).Index(i), size, n)
		}
	case reflect.Array:
		for i := range v.Len() {
			fill(v.Index(i), size, n)
		}
	case reflect.Bool:
		v.SetBool(true)
	case reflect.Int, reflect.Int64:
		*n++
		v.SetInt(*n * -0x61c8864680b583eb)
	}
}

// filled is a hand-made state of so many partitions and processes, whose lists have so many elements.
func filled(parts, procs, size int) api.State {
	s := api.State{Tick: 1<<62 + 5, Parts: make([]api.Part, parts, parts+2), Procs: make([]api.Process, procs, procs+2)}
	n := int64(parts + 100*procs + 10000*size)
	for i := range cap(s.Parts) {
		fill(reflect.ValueOf(&s.Parts[:cap(s.Parts)][i]).Elem(), size, &n)
	}
	for i := range cap(s.Procs) {
		fill(reflect.ValueOf(&s.Procs[:cap(s.Procs)][i]).Elem(), size, &n)
	}
	return s
}

// zeros is a state like a filled one, all of whose numbers are 0.
func zeros(parts, procs, size int) api.State {
	s := clone(filled(parts, procs, size))
	each(&s, func(_ string, v reflect.Value) {
		if v.Kind() != reflect.Slice {
			v.SetZero()
		}
	})
	return s
}

// of is a process of a partition, whose program's lines are told.
func of(part int, lines ...string) api.Proc {
	text := ""
	for _, l := range lines {
		text += l + "\n"
	}
	code, e, line, at := asm.Parse(text)
	if e != api.OK {
		panic(fmt.Sprintf("%q: %d in line %d at %d", text, e, line, at))
	}
	return api.Proc{Part: part, Code: code}
}

// chapter is the config of the chapter's examples.
func chapter() api.Config {
	return api.Config{Labels: []uint64{0, 1, 2, 3}, Table: []int{0, 1, 2, 3}, Fuel: 1, Lane: 1, Procs: []api.Proc{of(0), of(1), of(2), of(3)}}
}

// one is a config of one partition and process.
func one(label uint64) api.Config {
	return api.Config{Labels: []uint64{label}, Table: []int{0}, Fuel: 3, Lane: 2, Log: 5, Procs: []api.Proc{of(0, "recv r1 r2", "out r1", "jump 0")}}
}

// busy is a config of partitions with those labels, whose machine has something in each kind of list when it had some 30 ticks.
func busy(labels ...uint64) api.Config {
	c := api.Config{Labels: labels, Fuel: 5, Lane: 2, Locks: 2, Log: 9}
	for part := range labels {
		c.Table = append(c.Table, part)
		first := len(c.Procs)
		taker, next := fmt.Sprintf("set r0 %d", first), fmt.Sprintf("set r2 %d", first+8)
		c.Procs = append(c.Procs,
			of(part, "set r3 1000", "timer r3", "sleep r3"),
			of(part, taker, "set r1 9", "send r4 r0 r1", "jump 2"),
			of(part, taker, "self r1", "send r4 r0 r1", "jump 2"),
			of(part, "lock 0", "jump 1"), of(part, "lock 0", "jump 1"), of(part, "lock 1", "lock 0"),
			of(part, "recv r1 r2", "exit"), of(part, next, "now r1", "out r1", "send r4 r2 r1", "jump 1"))
	}
	return c
}

// ran are the states of a machine of that config, behind each of so many ticks and at first.
func ran(t *testing.T, c api.Config, ticks int) []api.State {
	t.Helper()
	m, e := machine.New(c)
	if e != api.OK {
		t.Fatalf("machine.New: %d", e)
	}
	l := []api.State{m.State()}
	for i := range ticks {
		if i == ticks/2 {
			m.Inject(len(c.Procs)-1, 77)
			m.Kill(6)
		}
		m.Tick()
		l = append(l, m.State())
	}
	return l
}

// configs are those of which much is asked: such as may be, and hand-made ones.
func configs() []api.Config {
	wildParts := api.Config{Labels: []uint64{0, 2, 1 << 63}}
	for _, part := range append([]int{0, 1, 2, 3, 4}, wild...) {
		wildParts.Procs = append(wildParts.Procs, api.Proc{Part: part})
	}
	many := api.Config{}
	for i := range 100 {
		many.Labels = append(many.Labels, labels[i%len(labels)])
		many.Procs = append(many.Procs, api.Proc{Part: 99 - i})
	}
	return []api.Config{
		{}, one(0), one(1), one(math.MaxUint64), chapter(), busy(0, 1, 2, 3), busy(1, 6), busy(1<<31, 1<<32, 1<<63, 1<<63|1),
		{Labels: []uint64{0, 1, 2}}, {Procs: []api.Proc{{}, {Part: 1}, {Part: -1}}},
		{Labels: []uint64{7, 3, 3, 0, 0}, Procs: []api.Proc{{Part: 3}, {Part: 2}, {Part: 2}, {Part: 0}, {Part: 4}, {Part: 5}}},
		wildParts, many,
	}
}

// states are those of which much is asked: of machines, and hand-made ones.
func states(t *testing.T) []api.State {
	l := []api.State{{}, {Tick: 9}, {Tick: math.MinInt64}, filled(1, 1, 1), filled(2, 3, 1), filled(4, 4, 2), filled(0, 5, 1), filled(5, 0, 1), filled(3, 3, 0), filled(9, 40, 1), filled(130, 110, 1), zeros(4, 4, 1)}
	for _, c := range []api.Config{one(0), busy(0, 1, 2, 3), busy(1, 6)} {
		for i, s := range ran(t, c, 42) {
			if i%14 == 0 {
				l = append(l, s)
			}
		}
	}
	return l
}
