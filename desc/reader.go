package desc

import (
	"portmanteau/api"
	"portmanteau/bitin"
)

// reader reads a description. It keeps its first error: from then on nothing is read, and every value is 0.
type reader struct {
	bits *bitin.Forward
	e    api.Errno
}

// keep keeps an error, unless there is one already.
func (r *reader) keep(e api.Errno) {
	if r.e == api.OK {
		r.e = e
	}
}

// demand keeps ErrTable unless a condition on the table holds.
func (r *reader) demand(ok bool) {
	if !ok {
		r.keep(api.ErrTable)
	}
}

// take reads the value of the next n bits.
func (r *reader) take(n int) int {
	if r.e != api.OK {
		return 0
	}
	v, e := r.bits.Take(n)
	r.keep(e)
	return int(v)
}

// align reads up to the next whole byte, and returns the number of bytes read, or 0 after an error.
func (r *reader) align() int {
	if r.e != api.OK {
		return 0
	}
	size, e := r.bits.Align()
	r.keep(e)
	return size
}

// table reads a table.
func (r *reader) table(symbols, log int) api.Table {
	t := api.Table{Log: 1 + r.take(logBits)}
	r.demand(t.Log <= log)
	t.Norm = r.norms(1<<t.Log, symbols)
	return t
}

// norms reads norms until no states are left.
func (r *reader) norms(left, symbols int) []int {
	var norms []int
next:
	for left > 0 && r.e == api.OK {
		r.demand(len(norms) < symbols)
		n := takeNumber(left+2, r.take) - 1
		// A 0 that has been read has had its run.
		r.demand(n != 0 || len(norms) == 0 || norms[len(norms)-1] != 0)
		norms = append(norms, n)
		left -= states(n)
		for n == 0 {
			r.demand(len(norms) < symbols)
			part := r.take(runBits)
			norms = append(norms, make([]int, part)...)
			if part < fullRun {
				continue next
			}
		}
	}
	return norms
}
