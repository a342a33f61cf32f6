package norm

import "cmp"

// rare is the norm of a symbol whose share is below 1.
const rare = -1

// portion is a symbol with a positive count, and what it gets of a table.
type portion struct {
	symbol int
	share  int // times the total of the counts, so that it is whole
	states int
}

// division is how the states of a table are divided among the symbols that occur. Only these are kept: they are not more than the states, however many counts of 0 lie between them.
type division struct {
	portions []portion
	total    int // of the counts
	left     int // the states that nobody has; below 0 if more are given than there are
}

// direction is one of the two ways to adjust a division.
type direction struct {
	step  int                  // what is added to a portion's states
	due   func(left int) bool  // whether there is something to adjust
	open  func(p portion) bool // whether this portion may be changed
	claim func(p portion) int  // the portion with the greatest one is changed first
}

// divide gives the symbols of valid counts their shares of so many states, rounded down, but never below 1.
func divide(counts []int, total, states int) *division {
	d := &division{total: total, left: states}
	for symbol, count := range counts {
		if count == 0 {
			continue
		}
		share := count * states
		p := portion{symbol, share, max(1, share/total)}
		d.portions = append(d.portions, p)
		d.left -= p.states
	}
	return d
}

// settle adds or removes states, one at a time, until all are given and none is given twice.
func (d *division) settle() {
	lack := func(p portion) int { return p.share - p.states*d.total }
	d.adjust(direction{
		step:  1,
		due:   func(left int) bool { return left > 0 },
		open:  func(portion) bool { return true },
		claim: lack,
	})
	d.adjust(direction{
		step:  -1,
		due:   func(left int) bool { return left < 0 },
		open:  func(p portion) bool { return p.states > 1 },
		claim: func(p portion) int { return -lack(p) },
	})
}

// adjust goes in one direction as far as it is due. There is always an open portion: while too many states are given, they are more than the symbols.
func (d *division) adjust(way direction) {
	for way.due(d.left) {
		first := greatest(d.portions, way.open, way.claim)
		d.portions[first].states += way.step
		d.left -= way.step
	}
}

// norms returns the norms of the symbols up to the last one that occurs.
func (d *division) norms() []int {
	last := d.portions[len(d.portions)-1]
	norms := make([]int, last.symbol+1)
	for _, p := range d.portions {
		norms[p.symbol] = p.states
		if p.share < d.total {
			norms[p.symbol] = rare
		}
	}
	return norms
}

// greatest returns the index of the first open element whose key no other open one exceeds, or -1 if none is open.
func greatest[T any, K cmp.Ordered](list []T, open func(T) bool, key func(T) K) int {
	best := -1
	for i, x := range list {
		if open(x) && (best < 0 || key(x) > key(list[best])) {
			best = i
		}
	}
	return best
}
