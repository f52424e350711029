package twin

import (
	"fmt"
	"math"
	"reflect"
	"slices"
	"testing"

	"firebreak/api"
)

// P19.1: R3.

// whole is how a thing stands with the spare room of all its lists.
func whole[T any](x T) string {
	fresh(reflect.ValueOf(&x).Elem())
	return stand(x)
}

// fresh puts new memory, without spare room, in the place of all lists of a thing; what is in their spare room is in them.
func fresh(v reflect.Value) {
	switch v.Kind() {
	case reflect.Struct:
		for i := range v.NumField() {
			fresh(v.Field(i))
		}
	case reflect.Slice:
		own := reflect.MakeSlice(v.Type(), v.Cap(), v.Cap())
		reflect.Copy(own, v.Slice(0, v.Cap()))
		v.Set(own)
		for i := range v.Len() {
			fresh(v.Index(i))
		}
	}
}

// spared is a list with spare room that has something in it.
func spared[T any](l []T, more ...T) []T {
	return append(slices.Clip(slices.Clone(l)), more...)[:len(l)]
}

// sparedConfig is a config whose lists all have spare room.
func sparedConfig(c api.Config) api.Config {
	c.Labels = spared(c.Labels, 1<<50, 1<<51)
	c.Table = spared(c.Table, 0, 9)
	c.Procs = spared(c.Procs, of(0, "exit"), of(9))
	for i := range cap(c.Procs) {
		p := &c.Procs[:cap(c.Procs)][i]
		p.Code = spared(p.Code, api.Ins{Op: 9}, api.Ins{Imm: 7})
	}
	return c
}

// given are twins whose lists all have spare room: such as must look alike, and such as need not.
func given() []Twins {
	var all []Twins
	for _, c := range []api.Config{chapter(), one(0), busy(0, 1, 3), {}} {
		for _, a := range []uint64{0, 1, math.MaxUint64} {
			x := Twins{A: sparedConfig(c), B: sparedConfig(c), Label: a}
			x.S = spared([]api.Step{ticks(3), inject(0, 1), inject(1, 5), ticks(2), kill(7)}, ticks(9), kill(0))
			x.T = spared(x.S, inject(4, 4), ticks(1))
			all = append(all, x)
			x.T = spared([]api.Step{inject(99, 1), ticks(3), inject(0, 1), kill(99), inject(1, 5), ticks(2), kill(7)}, ticks(9), kill(0))
			all = append(all, x)
			x.T = spared([]api.Step{}, ticks(1))
			all = append(all, x)
			x.S = spared([]api.Step{}, ticks(2))
			all = append(all, x)
			// All that can be is shared.
			all = append(all, same(x.A, a, all[0].S...))
		}
	}
	return all
}

func TestTwinsAreLeftAsTheyWere(t *testing.T) {
	for _, x := range given() {
		want := whole(x)
		for range 2 {
			Purge(x.A, x.S, x.Label)
			Purge(x.B, x.T, x.Label)
			May(x)
			Alike(x)
			if got := whole(x); got != want {
				t.Fatalf("%s, not %s", got, want)
			}
		}
	}
}

// touches tells whether two lists share memory, spare room too; or the one, without room of its own, points into the other one.
func touches(a, b []api.Step) bool {
	from, to := room(a)
	start, end := room(b)
	return from < end && start < max(to, from+1)
}

// room is where a list stands, with its spare room.
func room(l []api.Step) (from, to uintptr) {
	v := reflect.ValueOf(l)
	return v.Pointer(), v.Pointer() + uintptr(v.Cap())*v.Type().Elem().Size()
}

func TestPurgeIsNewMemory(t *testing.T) {
	c := chapter()
	for _, l := range [][]api.Step{
		nil, {}, {ticks(1)}, {inject(1, 1)}, {ticks(1), ticks(2), inject(0, 1), kill(0)}, {ticks(1), ticks(2), inject(1, 1)}, {inject(1, 1), ticks(1), kill(1)}, {inject(1, 1), kill(1)},
		slices.Repeat([]api.Step{ticks(1), kill(1)}, 300), spared([]api.Step{ticks(1), kill(1)}, ticks(7), ticks(8)), spared([]api.Step{}, ticks(1)), spared([]api.Step{kill(1)}, ticks(1)),
	} {
		for _, a := range []uint64{0, 1, 2} {
			answers := [][]api.Step{Purge(c, l, a), Purge(c, l, a)}
			answers = append(answers, Purge(c, answers[0], a))
			for i, own := range answers {
				for j, other := range append([][]api.Step{l}, answers[:i]...) {
					if cap(own) > 0 && touches(own, other) || cap(other) > 0 && touches(other, own) {
						t.Errorf("Purge(%+v, %d): the answer %d shares memory with %d", l, a, i, j)
					}
				}
			}
			scribbled(t, c, l, a)
		}
	}
}

// scribbled asks that what is done to an answer, in its spare room too, changes neither the steps nor another answer, and what is done to the steps no answer.
func scribbled(t *testing.T, c api.Config, l []api.Step, a uint64) {
	t.Helper()
	given := spared(l, ticks(5))
	want := whole(given)
	first, second := Purge(c, given, a), Purge(c, given, a)
	told := whole(second)
	scribble(first)
	if whole(given) != want || whole(second) != told {
		t.Errorf("Purge(%+v, %d): an answer is shared", l, a)
	}
	scribble(given)
	if whole(second) != told {
		t.Errorf("Purge(%+v, %d): the steps are shared", l, a)
	}
}

func scribble(l []api.Step) {
	for i := range cap(l) {
		l[:cap(l)][i] = stepOf(77, 77, 77)
	}
}

// What is asked hangs on what is handed in now, whatever stood there when it was asked last.
func TestNothingIsKept(t *testing.T) {
	a, b := busy(0, 1), busy(0, 1)
	x := Twins{A: a, B: b, S: make([]api.Step, 3), T: make([]api.Step, 4)}
	for round := range 60 {
		n := 1 + round%7
		x.S[0], x.S[1], x.S[2] = ticks(n), inject(3, int64(round)), ticks(n)
		x.T[0], x.T[1], x.T[2], x.T[3] = ticks(n), inject(3, int64(round)), inject(12, 5), ticks(n)
		must(t, x, int64(2*n))
		x.T[1].V++
		mustNot(t, x)
		x.T[1].V--
		b.Procs[2].Code[0].Imm++
		mustNot(t, x)
		b.Procs[2].Code[0].Imm--
		b.Procs[9].Code[0].Imm++
		must(t, x, int64(2*n))
		x.Label = 1
		mustNot(t, x)
		x.Label = 0
		b.Table[1] = 0
		mustNot(t, x)
		b.Table[1] = 1
		if got := fmt.Sprint(Purge(a, x.T, 0)); got != fmt.Sprint(x.S) {
			t.Errorf("%s", got)
		}
	}
}
