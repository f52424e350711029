package conf

import (
	"firebreak/api"
	"firebreak/code"
	"firebreak/table"
)

// reader reads a config from the left. Behind the first thing that is wrong it reads nothing any more.
type reader struct {
	b    []byte
	from int       // where the number begins that was read last
	next int       // where the next one begins
	e    api.Errno // what is wrong first
	at   int       // and where
}

// config reads all there is.
func (r *reader) config() api.Config {
	var c api.Config
	var procs int
	if r.head(); r.failed() {
		goto end
	}
	if c.Labels = r.labels(); r.failed() {
		goto end
	}
	if c.Table = r.table(len(c.Labels)); r.failed() {
		goto end
	}
	if c.Fuel, c.Lane, c.Locks, c.Log = r.numbers(); r.failed() {
		goto end
	}
	if procs = r.count(api.MaxProcs); r.failed() {
		goto end
	}
	for range procs {
		var p api.Proc
		if p.Part = r.part(len(c.Labels)); r.failed() {
			goto end
		}
		if p.Code = r.program(c.Locks); r.failed() {
			goto end
		}
		c.Procs = append(c.Procs, p)
	}
	r.rest()
end:
	if r.failed() {
		return api.Config{}
	}
	return c
}

func (r *reader) failed() bool { return r.e != api.OK }

// fail keeps what is wrong, and where; of several things the first.
func (r *reader) fail(e api.Errno, at int) {
	if !r.failed() && e != api.OK {
		r.e, r.at = e, at
	}
}

// number reads one of so many bytes; 0, if there are fewer.
func (r *reader) number(bytes int) uint64 {
	if r.failed() {
		return 0
	}
	if len(r.b)-r.next < bytes {
		r.fail(api.ErrShort, len(r.b))
		return 0
	}
	var v uint64
	for i := range bytes {
		v |= uint64(r.b[r.next+i]) << (8 * i)
	}
	r.from, r.next = r.next, r.next+bytes
	return v
}

// small reads a number that an int holds, whatever its bytes are.
func (r *reader) small(bytes int) int { return int(r.number(bytes)) }

// head reads what the bytes of a config begin with, byte by byte: a wrong one ahead of the end is told, not the end.
func (r *reader) head() {
	for i := range len(head) {
		if r.small(1) != int(head[i]) {
			r.fail(api.ErrForm, i)
		}
	}
}

// count reads how many things there are, 1 to most.
func (r *reader) count(most int) int {
	n := r.small(1)
	r.fail(some(n, most), r.from)
	return n
}

// part reads the number of a partition.
func (r *reader) part(parts int) int {
	part := r.small(1)
	r.fail(within(part, 0, parts-1), r.from)
	return part
}

func (r *reader) labels() []uint64 {
	var l []uint64
	for n := r.count(api.MaxParts); len(l) < n && !r.failed(); {
		l = append(l, r.number(labelBytes))
		// Those ahead may be: only the last one can be wrong.
		e, _ := table.May(l)
		r.fail(e, r.from)
	}
	return l
}

func (r *reader) table(parts int) []int {
	var l []int
	for n := r.count(api.MaxTable); len(l) < n && !r.failed(); {
		l = append(l, r.part(parts))
	}
	return l
}

// numbers reads those that have limits.
func (r *reader) numbers() (fuel, lane, locks, log int) {
	var v [partCount - partFuel]int
	for i, l := range limits {
		v[i] = r.small(l.bytes)
		r.fail(within(v[i], l.least, l.most), r.from)
	}
	return v[0], v[1], v[2], v[3]
}

// program reads how many instructions there are, and these.
func (r *reader) program(locks int) []api.Ins {
	n := r.small(lengthBytes)
	if n > api.MaxCode {
		r.fail(api.ErrMany, r.from)
	}
	var l []api.Ins
	for len(l) < n && !r.failed() {
		l = append(l, r.ins(n, locks))
	}
	return l
}

// ins reads an instruction of a program of n. Where its bytes end too early that is told already, and nothing else.
func (r *reader) ins(n, locks int) api.Ins {
	from := r.next
	x := api.Ins{Op: r.small(1), A: r.small(1), B: r.small(1), C: r.small(1), Imm: int64(r.number(immBytes))}
	if e := code.Check(x, n, locks); e != api.OK {
		r.fail(e, from+place(r.b[from:r.next], e))
	}
	return x
}

// place tells at which of an instruction's bytes what is wrong in it begins.
func place(b []byte, e api.Errno) int {
	// What may not stand in a longer program may not stand alone either, but for a lock that other configs have.
	if e == api.ErrLock {
		return atImm
	}
	_, _, at := code.Decode(b)
	return at
}

// rest asks that nothing is left.
func (r *reader) rest() {
	if r.next < len(r.b) {
		r.fail(api.ErrRest, r.next)
	}
}
