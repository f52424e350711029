package script

import "firebreak/api"

// reader reads a script from the left. Behind the first thing that is wrong it reads nothing any more.
type reader struct {
	b    []byte
	from int       // where the number begins that was read last
	next int       // where the next one begins
	e    api.Errno // what is wrong first
	at   int       // and where
}

// script reads all there is.
func (r *reader) script() []api.Step {
	r.head()
	var l []api.Step
	for n := r.count(); len(l) < n && !r.failed(); {
		l = append(l, r.step())
	}
	r.rest()
	return l
}

func (r *reader) failed() bool { return r.e != api.OK }

// fail keeps what is wrong, and where; of several things the first.
func (r *reader) fail(e api.Errno, at int) {
	if !r.failed() {
		r.e, r.at = e, at
	}
}

// number reads one of so many bytes; 0, if there are fewer.
func (r *reader) number(bytes int) uint64 {
	if r.failed() {
		return 0
	}
	if len(r.b)-r.next < bytes {
		r.fail(api.ErrShort, len(r.b))
		return 0
	}
	r.from, r.next = r.next, r.next+bytes
	var eight [8]byte
	copy(eight[:], r.b[r.from:r.next])
	return joined(eight)
}

// head reads what the bytes of a script begin with, byte by byte: a wrong one ahead of the end is told, not the end.
func (r *reader) head() {
	for i := range len(head) {
		if r.number(1) != uint64(head[i]) {
			r.fail(api.ErrForm, i)
		}
	}
}

// count reads how many steps there are.
func (r *reader) count() int {
	n := int(r.number(countBytes))
	if n > api.MaxSteps {
		r.fail(api.ErrMany, r.from)
	}
	return n
}

// step reads one; its kind is told to be none ahead of all that is behind it.
func (r *reader) step() api.Step {
	var s api.Step
	s.Kind = int(r.number(kindBytes))
	if !known(s.Kind) {
		r.fail(api.ErrArg, r.from)
	}
	s.N = int(r.number(nBytes))
	if hasV(s.Kind) {
		s.V = int64(r.number(vBytes))
	}
	return s
}

// rest asks that nothing is left.
func (r *reader) rest() {
	if r.next < len(r.b) {
		r.fail(api.ErrRest, r.next)
	}
}

// joined is the number of eight bytes, the lowest first.
func joined(eight [8]byte) uint64 {
	var v uint64
	for i, b := range eight {
		v |= uint64(b) << (8 * i)
	}
	return v
}

// split are the eight bytes of a number, the lowest first.
func split(v uint64) [8]byte {
	var eight [8]byte
	for i := range eight {
		eight[i] = byte(v >> (8 * i))
	}
	return eight
}
