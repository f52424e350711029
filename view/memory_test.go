package view

import (
	"math"
	"reflect"
	"slices"
	"testing"

	"firebreak/api"
)

// P18.3: R3, within states too.

// span is where a list stands, with its spare room.
type span struct {
	way      string
	from, to uintptr
}

// spans are those of all lists of a thing, in spare room too.
func spans[T any](way string, x *T) []span {
	var l []span
	walk(reflect.ValueOf(x).Elem(), way, true, func(way string, v reflect.Value) {
		if v.Kind() == reflect.Slice && !v.IsNil() {
			l = append(l, span{way, v.Pointer(), v.Pointer() + uintptr(v.Cap())*v.Type().Elem().Size()})
		}
	})
	return l
}

// touches tells whether a list shares memory with another one, or, without room of its own, points into it.
func touches(a, b span) bool { return a.from < b.to && b.from < max(a.to, a.from+1) }

// apart asks that no two lists of an answer share memory, and none with what was handed in.
func apart(t *testing.T, answer *api.State, given []span) {
	t.Helper()
	own := spans("the answer", answer)
	for i, a := range own {
		for _, b := range append(slices.Clone(given), own[:i]...) {
			if touches(a, b) {
				t.Errorf("%s shares memory with %s", a.way, b.way)
			}
		}
	}
}

// roomy is a config whose lists all have spare room, with something in it.
func roomy() api.Config {
	c := busy(0, 1, 2, 3)
	c.Labels = append(c.Labels, 1, 2, 3)[:4]
	c.Table = append(c.Table, 5, 6, 7)[:4]
	c.Procs = append(c.Procs, api.Proc{Part: 1, Code: []api.Ins{{Op: 3}}})[:len(c.Procs)]
	for i, p := range c.Procs {
		c.Procs[i].Code = append(p.Code, api.Ins{Op: 9}, api.Ins{Imm: 7})[:len(p.Code)]
	}
	return c
}

// sharing is a state whose lists share their memory wherever they can, with one another and with a config's table.
func sharing(c api.Config) api.State {
	s := filled(4, len(c.Procs), 4)
	numbers, log, queues, lanes := c.Table[:2:3], s.Parts[0].Log, s.Parts[0].Queues, s.Procs[0].Lanes
	for i := range queues {
		queues[i] = numbers[i%2:]
	}
	for i := range lanes {
		lanes[i].Values, lanes[i].Waiters = lanes[0].Values[:i+1], lanes[0].Waiters[:i]
	}
	for i := range s.Parts {
		s.Parts[i].Log, s.Parts[i].Owners, s.Parts[i].Queues = log[i:], numbers, queues[:i]
	}
	for i := range s.Procs {
		s.Procs[i].Lanes = lanes[i%4:]
	}
	return s
}

// given are configs and states of which memory is asked.
func given(t *testing.T) ([]api.Config, []api.State) {
	c := roomy()
	l := append(bareStates(), filled(4, len(c.Procs), 2), filled(6, 50, 1), filled(2, 3, 3), sharing(c), ran(t, c, 40)[40], api.State{})
	return []api.Config{c, chapter(), {}}, l
}

func TestAnswersAreNewMemory(t *testing.T) {
	configs, states := given(t)
	for _, c := range configs {
		for _, s := range states {
			for _, a := range []uint64{0, 1, 2, 3, math.MaxUint64} {
				given := append(spans("the config", &c), spans("the state", &s)...)
				first, second := tells(t, c, s, a), tells(t, c, s, a)
				apart(t, &first, given)
				apart(t, &second, append(given, spans("the answer ahead", &first)...))
				again := Of(c, first, a)
				apart(t, &again, spans("what was seen", &first))
			}
		}
	}
}

func TestArgumentsAreLeftAsTheyWere(t *testing.T) {
	configs, states := given(t)
	for _, c := range configs {
		for _, s := range states {
			other := s
			wantC, wantS := whole(c), whole(s)
			for _, a := range []uint64{0, 1, 2, 3, math.MaxUint64} {
				for p := -1; p < len(c.Procs)+2; p++ {
					Sees(c, p, a)
				}
				Of(c, s, a)
				Same(s, other)
				Same(s, Of(c, s, a))
				Same(Of(c, s, a), s)
			}
			if whole(c) != wantC || whole(s) != wantS {
				t.Errorf("changed: %s, not %s; %s, not %s", whole(c), wantC, whole(s), wantS)
			}
		}
	}
}

// scribble puts something else into all places of a thing's lists, spare room too.
func scribble[T any](x *T) {
	var l []reflect.Value
	walk(reflect.ValueOf(x).Elem(), "", true, func(_ string, v reflect.Value) {
		switch v.Kind() {
		case reflect.Bool:
			v.SetBool(!v.Bool())
		case reflect.Int, reflect.Int64:
			v.SetInt(^v.Int())
		case reflect.Uint64:
			v.SetUint(^v.Uint())
		case reflect.Slice:
			l = append(l, v.Slice(0, v.Cap()))
		}
	})
	// The lists are emptied from the innermost on, so that each is reached.
	for _, v := range slices.Backward(l) {
		for i := range v.Len() {
			v.Index(i).SetZero()
		}
	}
}

// What is done to an answer later changes neither an argument nor another answer, and what is done to an argument changes no answer.
func TestNothingIsSharedLater(t *testing.T) {
	configs, states := given(t)
	for _, config := range configs {
		for _, state := range states {
			for _, a := range []uint64{0, 1, 3, math.MaxUint64} {
				c, s := clone(config), clone(state)
				wantC, wantS := whole(c), whole(s)
				first, second := Of(c, s, a), Of(c, s, a)
				want := whole(second)
				scribble(&first)
				if whole(c) != wantC || whole(s) != wantS || whole(second) != want {
					t.Errorf("an answer is shared: %s, %s, %s", whole(c), whole(s), whole(second))
				}
				if got := Of(c, s, a); stand(got) != stand(second) {
					t.Errorf("Of, told again: %+v, not %+v", got, second)
				}
				scribble(&c)
				scribble(&s)
				if whole(second) != want {
					t.Errorf("an argument is shared: %s, not %s", whole(second), want)
				}
			}
		}
	}
}

// What is asked hangs on what is handed in now, whatever stood there when it was asked last.
func TestNothingIsKept(t *testing.T) {
	c, s, other := chapter(), filled(4, 4, 1), filled(4, 4, 1)
	for round := range 40 {
		c.Labels[round%4] = labels[round%len(labels)]
		c.Procs[round%3].Part = round % 5
		s.Parts[round%4].Log[0].Value++
		s.Procs[round%4].Lanes[0].Values[0]--
		alikes(t, "changed", s, other, false)
		for _, a := range labels {
			tells(t, c, s, a)
			for p := -1; p < 6; p++ {
				sees(t, c, p, a, plainSees(c, p, a))
			}
		}
		other = clone(s)
		alikes(t, "changed alike", s, other, true)
	}
}
