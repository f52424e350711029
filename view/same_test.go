package view

import (
	"math"
	"reflect"
	"testing"

	"firebreak/api"
)

// P18.1: Same.

// bareStates are states whose lists have no elements, from some depth on: nil, empty, or cut off.
func bareStates() []api.State {
	var l []api.State
	for depth := range 4 {
		for _, bare := range []func(v reflect.Value){
			func(v reflect.Value) { v.SetZero() },
			func(v reflect.Value) { v.Set(reflect.MakeSlice(v.Type(), 0, 0)) },
			func(v reflect.Value) { v.SetLen(0) },
		} {
			s := filled(3, 3, 2)
			bareFrom(reflect.ValueOf(&s).Elem(), depth, bare)
			l = append(l, s)
		}
	}
	return l
}

// bareFrom makes all lists bare that stand within so many others.
func bareFrom(v reflect.Value, depth int, bare func(v reflect.Value)) {
	switch v.Kind() {
	case reflect.Struct:
		for i := range v.NumField() {
			bareFrom(v.Field(i), depth, bare)
		}
	case reflect.Slice:
		if depth == 0 {
			bare(v)
			return
		}
		for i := range v.Len() {
			bareFrom(v.Index(i), depth-1, bare)
		}
	}
}

// changes are other things that may stand at a place: numbers near and far, lists of other lengths and orders.
func changes(v reflect.Value) []reflect.Value {
	var l []reflect.Value
	switch v.Kind() {
	case reflect.Bool:
		l = append(l, reflect.ValueOf(!v.Bool()))
	case reflect.Int, reflect.Int64:
		for _, n := range []int64{v.Int() + 1, v.Int() - 1, -v.Int(), ^v.Int(), v.Int() + 256, v.Int() ^ 1<<31, v.Int() ^ 1<<32, v.Int() ^ math.MinInt64, 0, -1} {
			if n != v.Int() {
				l = append(l, reflect.ValueOf(n).Convert(v.Type()))
			}
		}
	case reflect.Slice:
		n := v.Len()
		one := reflect.MakeSlice(v.Type(), 1, 1)
		l = append(l, reflect.AppendSlice(copyOf(v), one), reflect.AppendSlice(one, v), reflect.AppendSlice(copyOf(v), reflect.MakeSlice(v.Type(), 256, 256)))
		if n > 0 {
			l = append(l, v.Slice(0, n-1), v.Slice(1, n), reflect.AppendSlice(copyOf(v), v.Slice(n-1, n)), reflect.AppendSlice(copyOf(v), v), reflect.Zero(v.Type()))
		}
	}
	return l
}

// copyOf is a list without spare room.
func copyOf(v reflect.Value) reflect.Value {
	return reflect.AppendSlice(reflect.MakeSlice(v.Type(), 0, v.Len()), v)
}

// bases are states of which each place is changed.
func bases(t *testing.T) []api.State {
	l := []api.State{{}, filled(1, 1, 1), filled(3, 3, 3), filled(2, 5, 1), filled(0, 2, 1), filled(2, 0, 1), filled(2, 2, 0), zeros(3, 3, 2), zeros(1, 1, 0)}
	l = append(l, bareStates()...)
	return append(l, ran(t, busy(0, 1, 2, 3), 40)[40], ran(t, one(0), 5)[5])
}

func TestSameAtEachPlace(t *testing.T) {
	for _, s := range bases(t) {
		other := clone(s)
		places := 0
		each(&other, func(way string, v reflect.Value) {
			places++
			old := reflect.New(v.Type()).Elem()
			old.Set(v)
			for _, change := range changes(old) {
				v.Set(change)
				alikes(t, way, s, other, false)
			}
			v.Set(old)
		})
		alikes(t, "again", s, other, true)
		if places < 3 {
			t.Errorf("%d places", places)
		}
	}
}

// Two elements that stand in each other's places are others.
func TestSameInOtherOrders(t *testing.T) {
	for _, s := range bases(t) {
		other := clone(s)
		each(&other, func(way string, v reflect.Value) {
			if v.Kind() != reflect.Slice || v.Len() < 2 {
				return
			}
			swap := reflect.Swapper(v.Interface())
			for i := range v.Len() - 1 {
				swap(i, i+1)
				alikes(t, way, s, other, stand(s) == stand(other))
				swap(i, i+1)
			}
		})
		alikes(t, "again", s, other, true)
	}
}

// What is changed at one place is not made up for at another one.
func TestSameAtTwoPlaces(t *testing.T) {
	s := filled(2, 2, 1)
	other := clone(s)
	each(&other, func(way string, v reflect.Value) {
		if v.Kind() != reflect.Int && v.Kind() != reflect.Int64 {
			return
		}
		v.SetInt(v.Int() + 1)
		each(&other, func(second string, w reflect.Value) {
			if second == way || w.Kind() != reflect.Int && w.Kind() != reflect.Int64 {
				return
			}
			for _, d := range []int64{1, -1} {
				w.SetInt(w.Int() + d)
				alikes(t, way+" and "+second, s, other, false)
				w.SetInt(w.Int() - d)
			}
		})
		v.SetInt(v.Int() - 1)
	})
	alikes(t, "again", s, other, true)
}

// A list without elements is the same, nil or not, wherever it stands.
func TestSameOfListsWithoutElements(t *testing.T) {
	for _, base := range []api.State{filled(1, 1, 1), filled(3, 3, 2), filled(2, 2, 0), {}} {
		s, other := clone(base), clone(base)
		var theirs []reflect.Value
		each(&other, func(_ string, v reflect.Value) { theirs = append(theirs, v) })
		i := 0
		each(&s, func(way string, v reflect.Value) {
			w := theirs[i]
			i++
			if v.Kind() != reflect.Slice {
				return
			}
			old, its := reflect.ValueOf(v.Interface()), reflect.ValueOf(w.Interface())
			for _, a := range bares(old) {
				for _, b := range bares(its) {
					v.Set(a)
					w.Set(b)
					alikes(t, way, s, other, true)
				}
			}
			v.Set(old)
			w.Set(its)
		})
		alikes(t, "again", s, other, true)
	}
}

// bares are lists without elements, of a list's type.
func bares(v reflect.Value) []reflect.Value {
	return []reflect.Value{reflect.Zero(v.Type()), reflect.MakeSlice(v.Type(), 0, 0), reflect.MakeSlice(v.Type(), 0, 3), v.Slice(0, 0)}
}

// What stands in spare room is none of a state's.
func TestSameWhateverIsInSpareRoom(t *testing.T) {
	for _, size := range []int{0, 1, 3} {
		s, other := filled(3, 3, size), filled(3, 3, size)
		alikes(t, "filled alike", s, other, true)
		walk(reflect.ValueOf(&other).Elem(), "", true, func(_ string, v reflect.Value) {
			if v.Kind() == reflect.Slice {
				room := v.Slice(0, v.Cap())
				for i := v.Len(); i < v.Cap(); i++ {
					room.Index(i).SetZero()
				}
			}
		})
		alikes(t, "spare room", s, other, true)
		alikes(t, "no spare room", s, clone(s), true)
	}
}

func TestSameOfPairs(t *testing.T) {
	l := append(bases(t), states(t)...)
	for _, c := range []api.Config{chapter(), busy(1, 6)} {
		for _, a := range []uint64{0, 1, 2, 3} {
			l = append(l, Of(c, filled(3, 3, 3), a), Of(c, filled(4, 4, 2), a))
		}
	}
	same := 0
	for i, s := range l {
		for j, other := range l {
			want := stand(s) == stand(other)
			alikes(t, "pairs", s, other, want)
			if want && i != j {
				same++
			}
		}
	}
	if same == 0 {
		t.Error("no two of them are the same")
	}
}

// Of states that share their lists it is their elements that count.
func TestSameOfSharedLists(t *testing.T) {
	s := filled(3, 3, 2)
	alikes(t, "itself", s, s, true)
	shorter := s
	shorter.Procs = s.Procs[:2]
	alikes(t, "cut", s, shorter, false)
	turned := clone(s)
	turned.Parts[0].Owners = s.Parts[0].Queues[0]
	alikes(t, "another list", s, turned, false)
	turned.Parts[0].Owners = s.Parts[0].Owners
	alikes(t, "the list itself", s, turned, true)
}

// A state may be of any size.
func TestGreatStates(t *testing.T) {
	c := api.Config{Labels: make([]uint64, 3000), Procs: make([]api.Proc, 3000)}
	for i := range 3000 {
		c.Labels[i], c.Procs[i].Part = uint64(i%7), (i*i+1)%3000
	}
	s := filled(3000, 3000, 3)
	s.Procs[2].Lanes[1].Values = make([]int64, 1<<17)
	s.Parts[0].Log = make([]api.Entry, 1<<17)
	for _, a := range []uint64{0, 1, 2, 5, 7, math.MaxUint64} {
		got := tells(t, c, s, a)
		alikes(t, "again", Of(c, got, a), got, true)
	}
	other := clone(s)
	alikes(t, "great", s, other, true)
	other.Parts[0].Log[1<<17-1].Value++
	alikes(t, "the last entry", s, other, false)
}
