package flow

import (
	"portmanteau/api"
	"portmanteau/bitin"
	"portmanteau/cells"
)

// decoder reads a flow.
type decoder struct {
	cells   []api.Cell // by states
	bits    *bitin.Backward
	current [lanes]int
}

// symbols reads the first states, of that many bits, and then n symbols.
func (d *decoder) symbols(log, n int) ([]int, api.Errno) {
	for lane := range min(lanes, n) {
		// A first state is read like one that follows a cell from which all states can be reached.
		if e := d.move(lane, api.Cell{Bits: log}); e != api.OK {
			return nil, e
		}
	}
	list := make([]int, n)
	for i := range list {
		cell := d.cells[d.current[i%lanes]]
		list[i] = cell.Symbol
		if i+lanes >= n {
			continue
		}
		if e := d.move(i%lanes, cell); e != api.OK {
			return nil, e
		}
	}
	return list, api.OK
}

// move reads the state that follows a cell.
func (d *decoder) move(lane int, c api.Cell) api.Errno {
	bits, e := d.bits.Take(c.Bits)
	if e != api.OK {
		return e
	}
	d.current[lane] = cells.Next(c, bits)
	return api.OK
}
