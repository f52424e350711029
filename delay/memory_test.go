package delay

import (
	"fmt"
	"reflect"
	"slices"
	"testing"

	"firebreak/api"
)

// P21.6: R3.

// whole is how a thing stands, with the spare room of all its lists.
func whole[T any](x T) string {
	fresh(reflect.ValueOf(&x).Elem())
	return fmt.Sprintf("%+v", x)
}

// fresh puts new memory, without spare room, in the place of all lists of a thing; what is in their spare room is in them.
func fresh(v reflect.Value) {
	switch v.Kind() {
	case reflect.Struct:
		for i := range v.NumField() {
			fresh(v.Field(i))
		}
	case reflect.Slice:
		own := reflect.MakeSlice(v.Type(), v.Cap(), v.Cap())
		reflect.Copy(own, v.Slice(0, v.Cap()))
		v.Set(own)
		for i := range v.Len() {
			fresh(v.Index(i))
		}
	}
}

// roomy is a thing in new memory, all of whose lists have spare room that has something in it.
func roomy[T any](x T) T {
	spare(reflect.ValueOf(&x).Elem())
	return x
}

func spare(v reflect.Value) {
	switch v.Kind() {
	case reflect.Struct:
		for i := range v.NumField() {
			spare(v.Field(i))
		}
	case reflect.Slice:
		n := v.Len()
		own := reflect.MakeSlice(v.Type(), n, n+3)
		reflect.Copy(own, v)
		for i := range n {
			spare(own.Index(i))
		}
		for i := n; i < n+3; i++ {
			fill(own.Slice(0, n+3).Index(i))
		}
		v.Set(own)
	}
}

// fill puts something into all places of a thing, and into its lists.
func fill(v reflect.Value) {
	switch v.Kind() {
	case reflect.Struct:
		for i := range v.NumField() {
			fill(v.Field(i))
		}
	case reflect.Array:
		for i := range v.Len() {
			fill(v.Index(i))
		}
	case reflect.Slice:
		v.Set(reflect.MakeSlice(v.Type(), 2, 3))
		for i := range 3 {
			fill(v.Slice(0, 3).Index(i))
		}
	case reflect.Bool:
		v.SetBool(true)
	case reflect.Uint64:
		v.SetUint(77)
	default:
		v.SetInt(77)
	}
}

// asked are configs with scripts, such as may be and such as may not.
func asked() ([]api.Config, [][]api.Step) {
	many := make([]api.Step, api.MaxSteps+1)
	busy := one(2, of(0, "lock 0", "self r0", "send r1 r0 r0", "send r1 r0 r0", "unlock 0", "try r2 r3", "jump 0"), of(0, "lock 0", "now r1", "recv r0 r1", "unlock 0", "jump 0"), of(0, "lock 0", "jump 1"))
	l := steps(inject(0, 1), tick(20), inject(1, 2), tick(9), kill(1), tick(5), tick(-1), api.Step{Kind: 9})
	return []api.Config{chapter(), small(), busy, busy, {}, refusedConfigs()[2]}, [][]api.Step{nil, l, l, many, l, l}
}

func TestWhatIsHandedInIsLeftAsItWas(t *testing.T) {
	configs, scripts := asked()
	for i := range configs {
		c, l := roomy(configs[i]), roomy(scripts[i])
		config, script := whole(c), whole(l)
		for range 2 {
			for part := -1; part < 4; part++ {
				if Receive(c, part, 1, 2) != plainReceive(c, part, 1, 2) || Lock(c, part, 0, 2) != plainLock(c, part, 0, 2) {
					t.Errorf("of the partition %d of %s", part, config)
				}
			}
			messages, grants, e := Watch(c, l)
			wantMessages, wantGrants, want := Watch(configs[i], scripts[i])
			if e != want || !slices.Equal(messages, wantMessages) || !slices.Equal(grants, wantGrants) {
				t.Errorf("%v %v %d, not %v %v %d", messages, grants, e, wantMessages, wantGrants, want)
			}
			if whole(c) != config || whole(l) != script {
				t.Errorf("%s %s, not %s %s", whole(c), whole(l), config, script)
			}
		}
	}
}

func TestWhatIsHandedInOfChanceIsLeftAsItWas(t *testing.T) {
	c := chance(5)
	for range 100 {
		x := roomy(c.config())
		l := roomy(c.script(len(x.Procs), 20))
		config, script := whole(x), whole(l)
		messages, grants, _ := Watch(x, l)
		Receive(x, 0, 0, 1)
		Lock(x, 0, 0, 1)
		all := drive(t, x, l)
		if !slices.Equal(messages, plainMessages(all)) || !slices.Equal(grants, plainGrants(x, all)) {
			t.Errorf("%v %v", messages, grants)
		}
		if whole(x) != config || whole(l) != script {
			t.Errorf("%s %s, not %s %s", whole(x), whole(l), config, script)
		}
	}
}

// What stands in spare room is no step, no process, and no slot.
func TestSpareRoomIsNothing(t *testing.T) {
	l := steps(inject(0, 1), tick(2), inject(0, 3), tick(9))
	tell(t, asleep(), l[:1], []Message{{0, 1, 0, 0, -1}}, nil)
	tell(t, asleep(), l[:3], []Message{{0, 1, 0, 0, 1}, {0, 1, 0, 2, -1}}, nil)
	c := chapter()
	c.Procs, c.Table = c.Procs[:2], c.Table[:2]
	receives(t, c, 2, 0, 3, 10)
	c.Labels = c.Labels[:2]
	receives(t, c, 2, 0, 3, 0)
}

// touches tells whether two lists share memory, spare room too.
func touches(a, b any) bool {
	from, to := room(a)
	start, end := room(b)
	return from < end && start < to
}

// room is where a list stands, with its spare room.
func room(l any) (from, to uintptr) {
	v := reflect.ValueOf(l)
	return v.Pointer(), v.Pointer() + uintptr(v.Cap())*v.Type().Elem().Size()
}

// apart asks that no list shares memory with one ahead of it.
func apart(t *testing.T, lists ...any) {
	t.Helper()
	for i, l := range lists {
		for j, other := range lists[:i] {
			if touches(l, other) {
				t.Errorf("the lists %d and %d share memory: %v, %v", i, j, l, other)
			}
		}
	}
}

func TestAnswersAreNewMemory(t *testing.T) {
	configs, scripts := asked()
	for i, c := range configs {
		messages, grants, _ := Watch(c, scripts[i])
		others, again, _ := Watch(c, scripts[i])
		lists := []any{messages, grants, others, again, c.Labels, c.Table, c.Procs, scripts[i]}
		apart(t, slices.DeleteFunc(lists, func(l any) bool { return reflect.ValueOf(l).Cap() == 0 })...)
	}
	c := chance(6)
	for range 200 {
		x := c.config()
		l := c.script(len(x.Procs), 20)
		messages, grants, _ := Watch(x, l)
		others, again, _ := Watch(x, l)
		apart(t, slices.DeleteFunc([]any{messages, grants, others, again, l}, func(l any) bool { return reflect.ValueOf(l).Cap() == 0 })...)
	}
}

// scribble writes over a list, and over its spare room.
func scribble[T any](l []T, with T) {
	for i := range l[:cap(l)] {
		l[:cap(l)][i] = with
	}
}

// What is done to an answer changes neither what was handed in nor another answer, and what is done to what was handed in no answer.
func TestAnswersAreNotShared(t *testing.T) {
	configs, scripts := asked()
	c, l := roomy(configs[2]), roomy(scripts[2])
	config, script := whole(c), whole(l)
	messages, grants, _ := Watch(c, l)
	others, again, _ := Watch(c, l)
	if len(messages) < 3 || len(grants) < 2 {
		t.Errorf("%v %v", messages, grants)
	}
	wantMessages, wantGrants := slices.Clone(others), slices.Clone(again)
	scribble(messages, Message{77, 77, 77, 77, 77})
	scribble(grants, Grant{77, 77, 77, 77})
	if whole(c) != config || whole(l) != script {
		t.Errorf("%s %s, not %s %s", whole(c), whole(l), config, script)
	}
	scribble(l, tick(77))
	scribble(c.Procs[0].Code, api.Ins{})
	scribble(c.Procs, api.Proc{})
	scribble(c.Table, 77)
	if !slices.Equal(others, wantMessages) || !slices.Equal(again, wantGrants) {
		t.Errorf("%v %v, not %v %v", others, again, wantMessages, wantGrants)
	}
}

// What is asked hangs on what is handed in now, whatever stood there when it was asked last.
func TestNothingIsKept(t *testing.T) {
	c, l := asleep(), steps(inject(0, 1), tick(1), tick(1))
	for round := range 30 {
		l[0].N, l[1].N = round%2, 1+round
		if round%2 > 0 {
			tell(t, c, l, nil, nil)
		} else {
			tell(t, c, l, []Message{{0, 1, 0, 0, 1}}, nil)
		}
		c.Table = slices.Repeat([]int{0, 1}, 1+round)
		c.Labels = []uint64{uint64(round), 1 << 40}
		c.Lane, c.Locks = 1+round, round%8
		receives(t, c, 0, round, 5, int64(round+1)*2*5*2)
		receives(t, c, 0, round+1, 5, 0)
		locks(t, c, 0, 7, 1, 0)
		c.Table, c.Labels = []int{0}, []uint64{7}
	}
}
