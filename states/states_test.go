package states_test

import (
	"math"
	"math/rand"
	"slices"
	"testing"

	"portmanteau/api"
	"portmanteau/bitin"
	"portmanteau/bitout"
	"portmanteau/cells"
	"portmanteau/spread"
	"portmanteau/states"
)

// The table of examples

func TestExamples(t *testing.T) {
	c := coder(t, api.Table{Log: 2, Norm: []int{3, 1}})
	for _, x := range []struct {
		state, symbol int
		want          api.Step
	}{
		{3, 0, api.Step{State: 0, Bits: 1, N: 1}},
		{0, 0, api.Step{State: 1, Bits: 0, N: 0}},
		{2, 1, api.Step{State: 3, Bits: 2, N: 2}},
	} {
		if got, e := c.Predecessor(x.state, x.symbol); got != x.want || e != api.OK {
			t.Errorf("Predecessor(%d, %d) = %v, %d, want %v", x.state, x.symbol, got, e, x.want)
		}
	}
	if got, e := c.Cell(3); got != (api.Cell{Symbol: 1, Bits: 2, Base: 0}) || e != api.OK {
		t.Errorf("Cell(3) = %v, %d", got, e)
	}
	for symbol, want := range []struct {
		state int
		e     api.Errno
	}{{0, api.OK}, {3, api.OK}, {0, api.ErrArg}} {
		if got, e := c.Lowest(symbol); got != want.state || e != want.e {
			t.Errorf("Lowest(%d) = %d, %d, want %d, %d", symbol, got, e, want.state, want.e)
		}
	}
}

// P10.1

func TestNewAndLog(t *testing.T) {
	for _, x := range valid() {
		if got := coder(t, x).Log(); got != x.Log {
			t.Errorf("the Log of {%d %v of %d} is %d", x.Log, brief(x.Norm), len(x.Norm), got)
		}
	}
}

func TestNewOfInvalidTables(t *testing.T) {
	for _, x := range invalid() {
		if c, e := states.New(x); c != nil || e != api.ErrTable {
			t.Errorf("New({%d %v of %d}) = %v, %d, want ErrTable", x.Log, brief(x.Norm), len(x.Norm), c, e)
		}
	}
}

// A table of 256 norms is the longest; the greatest Log is 9.
func TestTheLimits(t *testing.T) {
	for log := -1; log <= 11; log++ {
		for _, length := range []int{1, 2, 255, 256, 257, 258, 1000} {
			x := api.Table{Log: log, Norm: joined(filled(length-1, 0), []int{1 << max(log, 0)})}
			c, e := states.New(x)
			if log < 0 || log > 9 || length > 256 {
				if c != nil || e != api.ErrTable {
					t.Errorf("New of the Log %d and %d norms: %v, %d, want ErrTable", log, length, c, e)
				}
			} else if e != api.OK || c.Log() != log {
				t.Errorf("New of the Log %d and %d norms: %d, Log %d", log, length, e, c.Log())
			}
		}
	}
}

// empty returns the Coders that have no table.
func empty() map[string]*states.Coder {
	failed, _ := states.New(api.Table{Log: 2, Norm: []int{3}})
	return map[string]*states.Coder{"nil": nil, "zero": {}, "new": new(states.Coder), "of an invalid table": failed}
}

func TestLogWithoutTable(t *testing.T) {
	for why, c := range empty() {
		if got := c.Log(); got != 0 {
			t.Errorf("%s: Log = %d, want 0", why, got)
		}
	}
}

// answers is all that a Coder of a table tells.
type answers struct {
	log    int
	list   []api.Cell
	lowest []int
	steps  []api.Step
	next   []int
}

// asked returns a Coder's answers to all questions about a table that has them.
func asked(t *testing.T, c *states.Coder, x api.Table) answers {
	t.Helper()
	a := answers{log: c.Log()}
	for state := range 1 << x.Log {
		cell, e := c.Cell(state)
		if e != api.OK {
			t.Fatalf("Cell(%d): %d", state, e)
		}
		a.list = append(a.list, cell)
		a.next = append(a.next, next(t, c, state, 0), next(t, c, state, math.MaxUint64))
	}
	for _, symbol := range used(x) {
		low, e := c.Lowest(symbol)
		if e != api.OK {
			t.Fatalf("Lowest(%d): %d", symbol, e)
		}
		a.lowest = append(a.lowest, low)
		for state := range 1 << x.Log {
			a.steps = append(a.steps, predecessor(t, c, state, symbol))
		}
	}
	return a
}

// same tells whether two Coders told the same.
func (a answers) same(b answers) bool {
	return a.log == b.log && slices.Equal(a.list, b.list) && slices.Equal(a.lowest, b.lowest) && slices.Equal(a.steps, b.steps) && slices.Equal(a.next, b.next)
}

// A Coder has a copy of the table: it does not change with it, and changes neither it nor what is behind it.
func TestNewCopiesTheTable(t *testing.T) {
	for _, x := range chosen() {
		behind := []int{-77, -78, -79}
		room := joined(x.Norm, behind)
		own := api.Table{Log: x.Log, Norm: room[:len(x.Norm)]}
		c := coder(t, own)
		before := asked(t, c, x)
		if !slices.Equal(room, joined(x.Norm, behind)) {
			t.Fatalf("the norms %v changed", brief(x.Norm))
		}
		for i := range room {
			room[i] = 1 << 20
		}
		own.Log = 5
		if !asked(t, c, x).same(before) {
			t.Errorf("{%d %v of %d}: the Coder changed with the table", x.Log, brief(x.Norm), len(x.Norm))
		}
	}
}

// What one Coder is asked changes neither it nor another one.
func TestCodersAreApart(t *testing.T) {
	tables := chosen()
	for i, x := range tables {
		y := tables[(i+1)%len(tables)]
		c, d := coder(t, x), coder(t, y)
		first, other := asked(t, c, x), asked(t, d, y)
		for _, state := range []int{-1, 0, 1 << 10} {
			_, _ = c.Cell(state)
			_, _ = c.Lowest(state)
			_, _ = c.Predecessor(state, state)
			_, _ = c.Next(state, 3)
		}
		if !asked(t, c, x).same(first) || !asked(t, d, y).same(other) || !asked(t, coder(t, x), x).same(first) {
			t.Errorf("{%d %v of %d}: the answers changed", x.Log, brief(x.Norm), len(x.Norm))
		}
	}
}

// P10.2

func TestCell(t *testing.T) {
	for _, x := range valid() {
		c := coder(t, x)
		for state, want := range cellsOf(t, x) {
			if got, e := c.Cell(state); got != want || e != api.OK {
				t.Errorf("{%d %v of %d}: Cell(%d) = %v, %d, want %v", x.Log, brief(x.Norm), len(x.Norm), state, got, e, want)
			}
		}
	}
}

func TestCellOfNoState(t *testing.T) {
	for _, x := range chosen() {
		c := coder(t, x)
		for _, state := range wrongStates(1 << x.Log) {
			if got, e := c.Cell(state); got != (api.Cell{}) || e != api.ErrRange {
				t.Errorf("{%d %v of %d}: Cell(%d) = %v, %d, want ErrRange", x.Log, brief(x.Norm), len(x.Norm), state, got, e)
			}
		}
	}
}

func TestCellWithoutTable(t *testing.T) {
	for why, c := range empty() {
		for _, state := range append(wrongStates(1), 0, 1, 511) {
			if got, e := c.Cell(state); got != (api.Cell{}) || e != api.ErrNil {
				t.Errorf("%s: Cell(%d) = %v, %d, want ErrNil", why, state, got, e)
			}
		}
	}
}

func TestLowestOfKnownTables(t *testing.T) {
	for _, x := range []struct {
		why   string
		log   int
		norms []int
		want  []int // by symbols; -1 for one without states
	}{
		{"the only state", 0, []int{1}, []int{0}},
		{"the only state, a rare symbol's", 0, []int{0, -1}, []int{-1, 0}},
		{"symbols one after the other", 3, []int{1, 2, 3, 2}, []int{0, 1, 3, 6}},
		{"a zero between symbols", 3, []int{5, 0, 3}, []int{0, -1, 5}},
		{"rare symbols, from the top down", 2, []int{-1, -1, -1, -1}, []int{3, 2, 1, 0}},
		{"a rare symbol ahead of the others", 3, []int{-1, 4, 3}, []int{7, 0, 4}},
		{"rare symbols between and behind the others", 3, []int{3, -1, 3, -1}, []int{0, 7, 3, 6}},
		{"scattered states", 4, []int{8, 8}, []int{0, 2}},
		{"one scattered state", 4, []int{15, 1}, []int{0, 3}},
	} {
		c := coder(t, api.Table{Log: x.log, Norm: x.norms})
		for symbol, want := range x.want {
			wantErr := api.OK
			if want < 0 {
				want, wantErr = 0, api.ErrArg
			}
			if got, e := c.Lowest(symbol); got != want || e != wantErr {
				t.Errorf("%s: Lowest(%d) of %v = %d, %d, want %d, %d", x.why, symbol, x.norms, got, e, want, wantErr)
			}
		}
	}
}

// No state below the lowest one decodes to the symbol, and it does.
func TestLowestAgainstTheDefinition(t *testing.T) {
	for _, x := range valid() {
		c, list := coder(t, x), cellsOf(t, x)
		for _, symbol := range used(x) {
			want := slices.IndexFunc(list, func(c api.Cell) bool { return c.Symbol == symbol })
			got, e := c.Lowest(symbol)
			if got != want || e != api.OK {
				t.Errorf("{%d %v of %d}: Lowest(%d) = %d, %d, want %d", x.Log, brief(x.Norm), len(x.Norm), symbol, got, e, want)
			}
			if places, _ := spread.Positions(x, symbol); places[0] != got {
				t.Errorf("{%d %v of %d}: Lowest(%d) = %d, but the spread's first index is %d", x.Log, brief(x.Norm), len(x.Norm), symbol, got, places[0])
			}
		}
	}
}

func TestLowestOfNoSymbol(t *testing.T) {
	for _, x := range valid() {
		c := coder(t, x)
		for _, symbol := range wrongSymbols(x) {
			if got, e := c.Lowest(symbol); got != 0 || e != api.ErrArg {
				t.Errorf("{%d %v of %d}: Lowest(%d) = %d, %d, want ErrArg", x.Log, brief(x.Norm), len(x.Norm), symbol, got, e)
			}
		}
	}
}

func TestLowestWithoutTable(t *testing.T) {
	for why, c := range empty() {
		for _, symbol := range append(wrongSymbols(api.Table{}), 0, 1, 255) {
			if got, e := c.Lowest(symbol); got != 0 || e != api.ErrNil {
				t.Errorf("%s: Lowest(%d) = %d, %d, want ErrNil", why, symbol, got, e)
			}
		}
	}
}

// P10.3

func TestPredecessorOfKnownTables(t *testing.T) {
	for _, x := range []struct {
		why    string
		log    int
		norms  []int
		symbol int
		want   []api.Step // by states
	}{
		{"the only state", 0, []int{0, 1}, 1, []api.Step{{}}},
		{"all states", 2, []int{4}, 0, []api.Step{{State: 0}, {State: 1}, {State: 2}, {State: 3}}},
		{"one state", 2, []int{3, 1}, 1, []api.Step{{State: 3, Bits: 0, N: 2}, {State: 3, Bits: 1, N: 2}, {State: 3, Bits: 2, N: 2}, {State: 3, Bits: 3, N: 2}}},
		{"one state, a rare symbol's", 2, []int{-1, 3}, 0, []api.Step{{State: 3, Bits: 0, N: 2}, {State: 3, Bits: 1, N: 2}, {State: 3, Bits: 2, N: 2}, {State: 3, Bits: 3, N: 2}}},
		{"one state, the lowest", 1, []int{1, 1}, 0, []api.Step{{State: 0, Bits: 0, N: 1}, {State: 0, Bits: 1, N: 1}}},
		{"a power of two", 3, []int{4, 4}, 1, []api.Step{{State: 4, Bits: 0, N: 1}, {State: 4, Bits: 1, N: 1}, {State: 5, Bits: 0, N: 1}, {State: 5, Bits: 1, N: 1},
			{State: 6, Bits: 0, N: 1}, {State: 6, Bits: 1, N: 1}, {State: 7, Bits: 0, N: 1}, {State: 7, Bits: 1, N: 1}}},
		{"no power of two, below half", 3, []int{5, 3}, 1, []api.Step{{State: 6, Bits: 0, N: 1}, {State: 6, Bits: 1, N: 1}, {State: 7, Bits: 0, N: 1}, {State: 7, Bits: 1, N: 1},
			{State: 5, Bits: 0, N: 2}, {State: 5, Bits: 1, N: 2}, {State: 5, Bits: 2, N: 2}, {State: 5, Bits: 3, N: 2}}},
		{"no power of two, above half", 3, []int{5, 3}, 0, []api.Step{{State: 3}, {State: 4}, {State: 0, Bits: 0, N: 1}, {State: 0, Bits: 1, N: 1},
			{State: 1, Bits: 0, N: 1}, {State: 1, Bits: 1, N: 1}, {State: 2, Bits: 0, N: 1}, {State: 2, Bits: 1, N: 1}}},
		{"scattered states", 4, []int{2, -1, 12, -1}, 0, []api.Step{{State: 0, Bits: 0, N: 3}, {State: 0, Bits: 1, N: 3}, {State: 0, Bits: 2, N: 3}, {State: 0, Bits: 3, N: 3},
			{State: 0, Bits: 4, N: 3}, {State: 0, Bits: 5, N: 3}, {State: 0, Bits: 6, N: 3}, {State: 0, Bits: 7, N: 3}, {State: 13, Bits: 0, N: 3}, {State: 13, Bits: 1, N: 3},
			{State: 13, Bits: 2, N: 3}, {State: 13, Bits: 3, N: 3}, {State: 13, Bits: 4, N: 3}, {State: 13, Bits: 5, N: 3}, {State: 13, Bits: 6, N: 3}, {State: 13, Bits: 7, N: 3}}},
	} {
		c := coder(t, api.Table{Log: x.log, Norm: x.norms})
		for state, want := range x.want {
			if got, e := c.Predecessor(state, x.symbol); got != want || e != api.OK {
				t.Errorf("%s: Predecessor(%d, %d) of %v = %v, %d, want %v", x.why, state, x.symbol, x.norms, got, e, want)
			}
		}
	}
}

// few returns some of the states of a table, the first and the last ones among them, or all of a small one.
func few(size int) []int {
	var list []int
	for state := range size {
		if size <= 16 || state < 3 || state >= size-3 || state%37 == 0 {
			list = append(list, state)
		}
	}
	return list
}

func TestPredecessorAgainstTheDefinition(t *testing.T) {
	for _, x := range valid() {
		c, list := coder(t, x), cellsOf(t, x)
		for _, symbol := range used(x) {
			for _, state := range few(len(list)) {
				if got, want := predecessor(t, c, state, symbol), stepOf(t, list, state, symbol); got != want {
					t.Errorf("{%d %v of %d}: Predecessor(%d, %d) = %v, want %v", x.Log, brief(x.Norm), len(x.Norm), state, symbol, got, want)
				}
			}
		}
	}
}

// Every number of states that a symbol can have in the largest table, and every state.
func TestPredecessorOfEveryNumberOfStates(t *testing.T) {
	const size = 1 << maxLog
	for n := 1; n < size; n++ {
		x := api.Table{Log: maxLog, Norm: []int{n, size - n}}
		c, list := coder(t, x), cellsOf(t, x)
		want := make([]api.Step, size)
		for from, cell := range list {
			if cell.Symbol == 0 {
				for value := range 1 << cell.Bits {
					want[cell.Base+value] = api.Step{State: from, Bits: uint64(value), N: cell.Bits}
				}
			}
		}
		for state := range size {
			if got := predecessor(t, c, state, 0); got != want[state] {
				t.Fatalf("%v: Predecessor(%d, 0) = %v, want %v", x, state, got, want[state])
			}
		}
	}
}

func TestPredecessorOfNoState(t *testing.T) {
	for _, x := range chosen() {
		c := coder(t, x)
		for _, state := range wrongStates(1 << x.Log) {
			for _, symbol := range used(x) {
				if got, e := c.Predecessor(state, symbol); got != (api.Step{}) || e != api.ErrRange {
					t.Errorf("{%d %v of %d}: Predecessor(%d, %d) = %v, %d, want ErrRange", x.Log, brief(x.Norm), len(x.Norm), state, symbol, got, e)
				}
			}
		}
	}
}

func TestPredecessorOfNoSymbol(t *testing.T) {
	for _, x := range valid() {
		c := coder(t, x)
		for _, symbol := range wrongSymbols(x) {
			for _, state := range []int{0, 1<<x.Log - 1} {
				if got, e := c.Predecessor(state, symbol); got != (api.Step{}) || e != api.ErrArg {
					t.Errorf("{%d %v of %d}: Predecessor(%d, %d) = %v, %d, want ErrArg", x.Log, brief(x.Norm), len(x.Norm), state, symbol, got, e)
				}
			}
		}
	}
}

// A wrong state comes ahead of a wrong symbol, and the missing table ahead of both.
func TestPredecessorOrderOfErrors(t *testing.T) {
	for _, x := range chosen() {
		c := coder(t, x)
		for _, state := range wrongStates(1 << x.Log) {
			for _, symbol := range wrongSymbols(x) {
				if got, e := c.Predecessor(state, symbol); got != (api.Step{}) || e != api.ErrRange {
					t.Errorf("{%d %v of %d}: Predecessor(%d, %d) = %v, %d, want ErrRange", x.Log, brief(x.Norm), len(x.Norm), state, symbol, got, e)
				}
			}
		}
	}
	for why, c := range empty() {
		for _, state := range append(wrongStates(1), 0, 1, 511) {
			for _, symbol := range append(wrongSymbols(api.Table{}), 0, 1, 255) {
				if got, e := c.Predecessor(state, symbol); got != (api.Step{}) || e != api.ErrNil {
					t.Errorf("%s: Predecessor(%d, %d) = %v, %d, want ErrNil", why, state, symbol, got, e)
				}
			}
		}
	}
}

// For each state all values of its bits, alone and with all bits above them.
func TestNext(t *testing.T) {
	for _, x := range valid() {
		c := coder(t, x)
		for state, cell := range cellsOf(t, x) {
			for _, value := range few(1 << cell.Bits) {
				above := uint64(math.MaxUint64) << cell.Bits
				for _, bits := range []uint64{uint64(value), uint64(value) | above, uint64(value) | 1<<cell.Bits, uint64(value) | 1<<63} {
					got, e := c.Next(state, bits)
					if got != cell.Base+value || got != cells.Next(cell, bits) || e != api.OK {
						t.Errorf("{%d %v of %d}: Next(%d, %#x) = %d, %d, want %d", x.Log, brief(x.Norm), len(x.Norm), state, bits, got, e, cell.Base+value)
					}
				}
			}
		}
	}
}

func TestNextOfKnownTables(t *testing.T) {
	c := coder(t, api.Table{Log: 2, Norm: []int{3, 1}}) // Symbol, Bits, Base by states: 0 1 2, 0 0 0, 0 0 1, 1 2 0
	for _, x := range []struct {
		state int
		bits  uint64
		want  int
	}{{0, 0, 2}, {0, 1, 3}, {0, 2, 2}, {0, 7, 3}, {1, 0, 0}, {1, 5, 0}, {2, 0, 1}, {2, math.MaxUint64, 1}, {3, 0, 0}, {3, 1, 1}, {3, 2, 2}, {3, 3, 3}, {3, 4, 0}, {3, math.MaxUint64 - 1, 2}} {
		if got, e := c.Next(x.state, x.bits); got != x.want || e != api.OK {
			t.Errorf("Next(%d, %d) = %d, %d, want %d", x.state, x.bits, got, e, x.want)
		}
	}
}

func TestNextOfNoState(t *testing.T) {
	for _, x := range chosen() {
		c := coder(t, x)
		for _, state := range wrongStates(1 << x.Log) {
			for _, bits := range []uint64{0, 1, math.MaxUint64} {
				if got, e := c.Next(state, bits); got != 0 || e != api.ErrRange {
					t.Errorf("{%d %v of %d}: Next(%d, %d) = %d, %d, want ErrRange", x.Log, brief(x.Norm), len(x.Norm), state, bits, got, e)
				}
			}
		}
	}
}

func TestNextWithoutTable(t *testing.T) {
	for why, c := range empty() {
		for _, state := range append(wrongStates(1), 0, 1, 511) {
			for _, bits := range []uint64{0, 1, math.MaxUint64} {
				if got, e := c.Next(state, bits); got != 0 || e != api.ErrNil {
					t.Errorf("%s: Next(%d, %d) = %d, %d, want ErrNil", why, state, bits, got, e)
				}
			}
		}
	}
}

// P10.4

// From the predecessor of a state by its bits back to the state, also with other bits above them; and the predecessor decodes to the symbol.
func TestNextOfThePredecessor(t *testing.T) {
	for _, x := range valid() {
		c := coder(t, x)
		for _, symbol := range used(x) {
			for state := range 1 << x.Log {
				from := predecessor(t, c, state, symbol)
				above := uint64(math.MaxUint64) << from.N
				if to, wide := next(t, c, from.State, from.Bits), next(t, c, from.State, from.Bits|above); to != state || wide != state {
					t.Fatalf("{%d %v of %d}: Predecessor(%d, %d) = %v, from where Next leads to %d and %d", x.Log, brief(x.Norm), len(x.Norm), state, symbol, from, to, wide)
				}
				if cell, e := c.Cell(from.State); e != api.OK || cell.Symbol != symbol || cell.Bits != from.N || from.Bits>>from.N != 0 {
					t.Fatalf("{%d %v of %d}: Predecessor(%d, %d) = %v, whose cell is %v, %d", x.Log, brief(x.Norm), len(x.Norm), state, symbol, from, cell, e)
				}
			}
		}
	}
}

// Every state is the predecessor, for its own symbol, of just the states in its span, each by other bits.
func TestPredecessorsOfASpan(t *testing.T) {
	for _, x := range valid() {
		c, list := coder(t, x), cellsOf(t, x)
		for _, symbol := range used(x) {
			led := map[int][]int{} // by predecessors, the states to which they lead, in increasing order
			seen := map[[2]int]bool{}
			for state := range list {
				from := predecessor(t, c, state, symbol)
				led[from.State] = append(led[from.State], state)
				if key := [2]int{from.State, int(from.Bits)}; seen[key] {
					t.Fatalf("{%d %v of %d}: state %d leads by the bits %d to two states", x.Log, brief(x.Norm), len(x.Norm), from.State, from.Bits)
				} else {
					seen[key] = true
				}
			}
			for state, cell := range list {
				var span []int
				for value := range 1 << cell.Bits {
					span = append(span, cell.Base+value)
				}
				if cell.Symbol != symbol {
					span = nil
				}
				if !slices.Equal(led[state], span) {
					t.Fatalf("{%d %v of %d}: state %d is the predecessor for symbol %d of %v, want %v", x.Log, brief(x.Norm), len(x.Norm), state, symbol, brief(led[state]), brief(span))
				}
			}
		}
	}
}

// encode returns the state of the first symbol, and the steps by which a decoder goes on to the last one, whose state is given.
func encode(t *testing.T, c *states.Coder, symbols []int, last int) (int, []api.Step) {
	t.Helper()
	state, steps := last, make([]api.Step, len(symbols)-1)
	for i := len(symbols) - 2; i >= 0; i-- {
		steps[i] = predecessor(t, c, state, symbols[i])
		state = steps[i].State
	}
	return state, steps
}

// decode returns the symbols from the state of the first one on, of which there is one more than steps.
func decode(t *testing.T, c *states.Coder, state int, steps []api.Step) []int {
	t.Helper()
	var symbols []int
	for i := 0; ; i++ {
		cell, e := c.Cell(state)
		if e != api.OK {
			t.Fatalf("Cell(%d): %d", state, e)
		}
		symbols = append(symbols, cell.Symbol)
		if i == len(steps) {
			return symbols
		}
		state = next(t, c, state, steps[i].Bits)
	}
}

// sequences calls a function with every sequence of so many of the symbols.
func sequences(symbols []int, length int, each func([]int)) {
	var extend func(done []int)
	extend = func(done []int) {
		if len(done) == length {
			each(done)
			return
		}
		for _, symbol := range symbols {
			extend(append(done, symbol))
		}
	}
	extend(nil)
}

// All sequences of up to four symbols, on all small tables, with every state that decodes to the last one.
func TestShortSequencesComeBack(t *testing.T) {
	for _, x := range small(4) {
		c, list := coder(t, x), cellsOf(t, x)
		for length := 1; length <= 4; length++ {
			sequences(used(x), length, func(symbols []int) {
				for last, cell := range list {
					if cell.Symbol != symbols[length-1] {
						continue
					}
					first, steps := encode(t, c, symbols, last)
					if got := decode(t, c, first, steps); !slices.Equal(got, symbols) {
						t.Fatalf("%v: the symbols %v with the last state %d come back as %v", x, symbols, last, got)
					}
				}
			})
		}
	}
}

// draw returns so many symbols of a table: often by their states, sometimes each as likely as the others.
func draw(source *rand.Rand, x api.Table, length int) []int {
	pool := used(x)
	if source.Intn(2) == 0 {
		var byStates []int
		for _, symbol := range pool {
			byStates = append(byStates, filled(number(x.Norm[symbol]), symbol)...)
		}
		pool = byStates
	}
	list := make([]int, length)
	for i := range list {
		list[i] = pool[source.Intn(len(pool))]
	}
	return list
}

func TestLongSequencesComeBack(t *testing.T) {
	source := rand.New(rand.NewSource(11))
	for _, x := range valid() {
		c := coder(t, x)
		for _, length := range []int{1, 2, 7, 300} {
			symbols := draw(source, x, length)
			last, e := c.Lowest(symbols[length-1])
			if e != api.OK {
				t.Fatalf("Lowest(%d): %d", symbols[length-1], e)
			}
			first, steps := encode(t, c, symbols, last)
			if got := decode(t, c, first, steps); !slices.Equal(got, symbols) {
				t.Errorf("{%d %v of %d}: the symbols %v of %d come back as %v", x.Log, brief(x.Norm), len(x.Norm), brief(symbols), length, brief(got))
			}
		}
	}
}

// The steps in a closed bit stream: written from the last to the first, and the first state behind them; read from its end.
func TestSequencesComeBackFromABitStream(t *testing.T) {
	source := rand.New(rand.NewSource(12))
	for _, x := range chosen() {
		c := coder(t, x)
		symbols := draw(source, x, 500)
		last, _ := c.Lowest(symbols[len(symbols)-1])
		state, steps := encode(t, c, symbols, last)
		var w bitout.Writer
		for _, step := range slices.Backward(steps) {
			if e := w.Put(step.Bits, step.N); e != api.OK {
				t.Fatalf("Put(%d, %d): %d", step.Bits, step.N, e)
			}
		}
		if e := w.Put(uint64(state), c.Log()); e != api.OK {
			t.Fatalf("Put(%d, %d): %d", state, c.Log(), e)
		}
		k, e := bitin.NewBackward(w.Close())
		if e != api.OK {
			t.Fatalf("NewBackward: %d", e)
		}
		first, _ := k.Take(c.Log())
		state = int(first)
		for i, want := range symbols {
			cell, e := c.Cell(state)
			if e != api.OK || cell.Symbol != want {
				t.Fatalf("{%d %v of %d}: symbol %d is %d, %d, want %d", x.Log, brief(x.Norm), len(x.Norm), i, cell.Symbol, e, want)
			}
			if i < len(symbols)-1 {
				bits, _ := k.Take(cell.Bits)
				state = next(t, c, state, bits)
			}
		}
		if k.Left() != 0 || state != last {
			t.Errorf("{%d %v of %d}: %d bits are left, and the last state is %d, want %d", x.Log, brief(x.Norm), len(x.Norm), k.Left(), state, last)
		}
	}
}
