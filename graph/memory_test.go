package graph

import (
	"fmt"
	"reflect"
	"slices"
	"testing"

	"firebreak/api"
)

// P20.4: R3.

// whole is how a thing stands, with the spare room of all its lists.
func whole[T any](x T) string {
	fresh(reflect.ValueOf(&x).Elem())
	return fmt.Sprintf("%+v", x)
}

// fresh puts new memory, without spare room, in the place of all lists of a thing; what is in their spare room is in them.
func fresh(v reflect.Value) {
	switch v.Kind() {
	case reflect.Struct:
		for i := range v.NumField() {
			fresh(v.Field(i))
		}
	case reflect.Slice:
		own := reflect.MakeSlice(v.Type(), v.Cap(), v.Cap())
		reflect.Copy(own, v.Slice(0, v.Cap()))
		v.Set(own)
		for i := range v.Len() {
			fresh(v.Index(i))
		}
	}
}

// roomy is a thing in new memory, all of whose lists have spare room that has something in it.
func roomy[T any](x T) T {
	spare(reflect.ValueOf(&x).Elem())
	return x
}

func spare(v reflect.Value) {
	switch v.Kind() {
	case reflect.Struct:
		for i := range v.NumField() {
			spare(v.Field(i))
		}
	case reflect.Slice:
		n := v.Len()
		own := reflect.MakeSlice(v.Type(), n, n+3)
		reflect.Copy(own, v)
		for i := range n {
			spare(own.Index(i))
		}
		for i := n; i < n+3; i++ {
			fill(own.Slice(0, n+3).Index(i))
		}
		v.Set(own)
	}
}

// fill puts something into all places of a thing, and into its lists.
func fill(v reflect.Value) {
	switch v.Kind() {
	case reflect.Struct:
		for i := range v.NumField() {
			fill(v.Field(i))
		}
	case reflect.Array:
		for i := range v.Len() {
			fill(v.Index(i))
		}
	case reflect.Slice:
		v.Set(reflect.MakeSlice(v.Type(), 2, 3))
		for i := range 3 {
			fill(v.Slice(0, 3).Index(i))
		}
	case reflect.Bool:
		v.SetBool(true)
	case reflect.Uint64:
		v.SetUint(77)
	default:
		v.SetInt(77)
	}
}

// asked are configs with states that may be, and with such as may not.
func asked(t *testing.T) ([]api.Config, []api.State) {
	t.Helper()
	c := crossed()
	m := run(t, c, 12)
	wrong := m.State()
	wrong.Procs[0].PC = 0
	laned := two(of(0, "set r0 1", "send r1 r0 r0", "recv r2 r3"), of(1, "self r0", "send r1 r0 r0", "jump 1"), of(1, "set r1 9", "sleep r1"), of(1, "lock 0", "jump 0"), of(1, "lock 0"))
	configs := []api.Config{c, c, c, laned, {}, c}
	states := []api.State{m.State(), wrong, start(t, c).State(), run(t, laned, 20).State(), m.State(), {}}
	return configs, states
}

func TestStatesAreLeftAsTheyWere(t *testing.T) {
	configs, states := asked(t)
	for i := range configs {
		c, s := roomy(configs[i]), roomy(states[i])
		config, stands := whole(c), whole(s)
		for range 2 {
			tell(t, c, s, Edges(configs[i], states[i]), Locked(configs[i], states[i]))
			if whole(c) != config || whole(s) != stands {
				t.Errorf("%s %s, not %s %s", whole(c), whole(s), config, stands)
			}
		}
	}
}

func TestEdgesAreLeftAsTheyWere(t *testing.T) {
	c := chance(31)
	for range 2000 {
		e := c.edges()
		want := Ring(e)
		e = roomy(e)
		stands := whole(e)
		rings(t, e, want...)
		rings(t, e, want...)
		if whole(e) != stands {
			t.Errorf("%s, not %s", whole(e), stands)
		}
	}
}

// What stands in spare room is no edge.
func TestSpareRoomIsNoEdge(t *testing.T) {
	all := list(1, 2, 2, 3, 3, 1, 1, 0, 0, 1)
	rings(t, all[:2])
	rings(t, all[:3], 1, 2, 3)
	rings(t, all[:4])
	rings(t, all, 0, 1)
	rings(t, all[1:3])
}

// touches tells whether two lists share memory, spare room too.
func touches(a, b any) bool {
	from, to := room(a)
	start, end := room(b)
	return from < end && start < to
}

// room is where a list stands, with its spare room.
func room(l any) (from, to uintptr) {
	v := reflect.ValueOf(l)
	return v.Pointer(), v.Pointer() + uintptr(v.Cap())*v.Type().Elem().Size()
}

// apart asks that no list shares memory with one ahead of it.
func apart(t *testing.T, lists ...any) {
	t.Helper()
	for i, l := range lists {
		for j, other := range lists[:i] {
			if touches(l, other) {
				t.Errorf("the lists %d and %d share memory: %v, %v", i, j, l, other)
			}
		}
	}
}

func TestAnswersAreNewMemory(t *testing.T) {
	configs, states := asked(t)
	for i, c := range configs {
		all, locked := Edges(c, states[i]), Locked(c, states[i])
		lists := []any{Edges(c, states[i]), Locked(c, states[i]), all, locked, Ring(all), Ring(all), Ring(locked)}
		for _, part := range states[i].Parts {
			lists = append(lists, part.Owners)
			for _, q := range part.Queues {
				lists = append(lists, q)
			}
		}
		for _, own := range c.Procs {
			lists = append(lists, own.Code)
		}
		apart(t, slices.DeleteFunc(lists, func(l any) bool { return reflect.ValueOf(l).Cap() == 0 })...)
	}
	c := chance(32)
	for range 1000 {
		e := roomy(c.edges())
		lists := []any{e, Ring(e), Ring(e)}
		apart(t, slices.DeleteFunc(lists, func(l any) bool { return reflect.ValueOf(l).Cap() == 0 })...)
	}
}

// scribble writes over a list, and over its spare room.
func scribble[T any](l []T, with T) {
	for i := range l[:cap(l)] {
		l[:cap(l)][i] = with
	}
}

// What is done to an answer changes neither what was handed in nor another answer, and what is done to what was handed in no answer.
func TestAnswersAreNotShared(t *testing.T) {
	c := crossed()
	s := run(t, c, 12).State()
	config, stands := whole(c), whole(s)
	first, second, locked := Edges(c, s), Edges(c, s), Locked(c, s)
	ring, other := Ring(second), Ring(second)
	scribble(first, [2]int{77, 77})
	scribble(ring, 77)
	if whole(c) != config || whole(s) != stands || !slices.Equal(second, list(0, 1, 1, 0, 2, 2)) || !slices.Equal(other, []int{0, 1}) {
		t.Errorf("%s %s %v %v", whole(c), whole(s), second, other)
	}
	scribble(second, [2]int{77, 77})
	scribble(s.Procs, api.Process{})
	scribble(s.Parts[0].Owners, 77)
	scribble(c.Procs, api.Proc{})
	if !slices.Equal(locked, list(0, 1, 1, 0)) || !slices.Equal(other, []int{0, 1}) {
		t.Errorf("%v %v", locked, other)
	}
}

// What is asked hangs on what is handed in now, whatever stood there when it was asked last.
func TestNothingIsKept(t *testing.T) {
	e := list(1, 2, 2, 1)
	c := crossed()
	m := start(t, c)
	for round := range 60 {
		e[0][0], e[1][1] = round, round
		if round == 2 {
			rings(t, e, 2)
		} else {
			rings(t, e, min(2, round), max(2, round))
		}
		e[1][1] = -1
		rings(t, e)
		s := m.State()
		tell(t, c, s, plainEdges(s), plainLocked(s))
		s.Tick = -1
		none(t, c, s)
		m.Tick()
	}
}
