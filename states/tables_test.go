package states_test

import (
	"math"
	"math/rand"
	"slices"
	"testing"

	"portmanteau/api"
	"portmanteau/cells"
	"portmanteau/norm"
	"portmanteau/states"
)

// The document's numbers, written out once more, so that a wrong one in the package shows.
const (
	maxLog     = 9
	maxSymbols = 256
)

// filled returns n norms that are all the same.
func filled(n, value int) []int { return slices.Repeat([]int{value}, n) }

// joined returns the concatenation of lists, in new memory.
func joined(lists ...[]int) []int { return slices.Concat(lists...) }

// brief shows a list in a message.
func brief[T any](list []T) []T { return list[:min(len(list), 16)] }

// number is the number of states of a norm.
func number(n int) int { return max(n, -n) }

// chosen returns valid tables of the kinds that the chapters name.
func chosen() []api.Table {
	tables := []api.Table{
		{Log: 2, Norm: []int{3, 1}}, {Log: 2, Norm: []int{2, -1, 1}}, {Log: 4, Norm: []int{8, 8}}, {Log: 3, Norm: []int{5, 0, 3}},
		{Log: 1, Norm: []int{1, 1}}, {Log: 1, Norm: []int{1, -1}}, {Log: 1, Norm: []int{-1, 1}}, {Log: 1, Norm: []int{-1, -1}},
		{Log: 4, Norm: []int{-1, 15}}, {Log: 4, Norm: []int{15, -1}}, {Log: 4, Norm: []int{15, 1}}, {Log: 4, Norm: []int{1, 15}}, {Log: 4, Norm: []int{5, -1, 4, -1, 4, -1}},
		{Log: 5, Norm: joined(filled(254, 0), []int{-1, 31})}, {Log: 6, Norm: []int{-1, 20, -1, 20, 0, 20, -1, 0, -1}}, {Log: 7, Norm: []int{100, 0, 0, 20, -1, -1, 6}},
		{Log: 8, Norm: filled(256, 1)}, {Log: 8, Norm: filled(256, -1)}, {Log: 8, Norm: joined([]int{250}, filled(6, -1))},
		{Log: 9, Norm: []int{511, -1}}, {Log: 9, Norm: []int{-1, 511}}, {Log: 9, Norm: []int{255, 257}}, {Log: 9, Norm: []int{256, 128, 64, 64}}, {Log: 9, Norm: []int{171, 341}},
		{Log: 9, Norm: joined(filled(255, 1), []int{257})}, {Log: 9, Norm: joined([]int{257}, filled(255, -1))}, {Log: 9, Norm: filled(256, 2)},
	}
	for log := range maxLog + 1 {
		tables = append(tables, api.Table{Log: log, Norm: []int{1 << log}}, api.Table{Log: log, Norm: joined(filled(255, 0), []int{1 << log})})
		if log > 1 {
			tables = append(tables, api.Table{Log: log, Norm: []int{1, 1<<log - 2, -1}}, api.Table{Log: log, Norm: []int{-1, 0, 1<<log - 1}})
		}
	}
	return append(tables, api.Table{Log: 0, Norm: []int{-1}}, api.Table{Log: 0, Norm: []int{0, 1}}, api.Table{Log: 0, Norm: []int{0, -1}}, api.Table{Log: 0, Norm: joined(filled(255, 0), []int{-1})})
}

// random returns a valid table: the states go to symbols one after the other, in portions of any size, with zeros between them.
func random(source *rand.Rand) api.Table {
	log := source.Intn(maxLog + 1)
	left, portion, rare, zeros := 1<<log, 1+source.Intn(1<<source.Intn(log+1)), source.Intn(4), source.Intn(5)
	norms := []int{}
	for left > 0 {
		n := min(left, 1+source.Intn(portion))
		if len(norms) == maxSymbols-1 {
			n = left
		} else if source.Intn(5) < zeros {
			norms = append(norms, 0)
			continue
		} else if n == 1 && source.Intn(3) < rare {
			n = -1
		}
		norms = append(norms, n)
		left -= number(n)
	}
	return api.Table{Log: log, Norm: norms}
}

// small returns all valid tables of a Log of at most 3 and of at most so many symbols.
func small(symbols int) []api.Table {
	var tables []api.Table
	var extend func(log, left int, norms []int)
	extend = func(log, left int, norms []int) {
		if left == 0 && norms[len(norms)-1] != 0 {
			tables = append(tables, api.Table{Log: log, Norm: slices.Clone(norms)})
		}
		if left == 0 || len(norms) == symbols {
			return
		}
		for n := -1; n <= left; n++ {
			extend(log, left-number(n), append(norms, n))
		}
	}
	for log := range 4 {
		extend(log, 1<<log, nil)
	}
	return tables
}

// valid returns valid tables of many kinds.
func valid() []api.Table {
	tables, source := append(chosen(), small(4)...), rand.New(rand.NewSource(10))
	for range 60 {
		tables = append(tables, random(source))
	}
	return tables
}

// invalid returns tables that are not valid.
func invalid() []api.Table {
	tables := []api.Table{
		{}, {Log: 0, Norm: []int{}}, {Log: 3}, {Log: 9, Norm: []int{1}[:0]}, {Log: -1}, {Log: 10}, {Log: math.MinInt}, {Log: math.MaxInt},
		{Log: -1, Norm: []int{1}}, {Log: -1, Norm: []int{-1}}, {Log: 10, Norm: []int{1024}}, {Log: 10, Norm: []int{512}}, {Log: 10, Norm: filled(256, 4)}, {Log: 62, Norm: []int{1 << 62}},
		{Log: 64, Norm: []int{1}}, {Log: math.MaxInt, Norm: []int{1}}, {Log: math.MinInt, Norm: []int{1}}, {Log: math.MaxInt, Norm: []int{math.MaxInt}},
		{Log: 9, Norm: joined(filled(256, 1), []int{256})}, {Log: 9, Norm: joined(filled(256, -1), []int{256})}, {Log: 8, Norm: joined([]int{256}, filled(256, 0))},
		{Log: 0, Norm: joined(filled(256, 0), []int{1})}, {Log: 9, Norm: filled(512, 1)}, {Log: 9, Norm: filled(512, -1)},
		{Log: 2, Norm: []int{6, -2}}, {Log: 2, Norm: []int{2, -2}}, {Log: 1, Norm: []int{-2}}, {Log: 2, Norm: []int{-4}}, {Log: 2, Norm: []int{math.MinInt, 4}}, {Log: 3, Norm: []int{math.MinInt, math.MaxInt, 9}},
		{Log: 0, Norm: []int{0}}, {Log: 0, Norm: []int{1, 0}}, {Log: 2, Norm: []int{3, 1, 0}}, {Log: 4, Norm: []int{16, 0, 0}}, {Log: 1, Norm: []int{0, -1, -1, 0}},
		{Log: 2, Norm: []int{math.MaxInt, math.MaxInt, 6}}, {Log: 2, Norm: []int{1 << 62, 1 << 62, 1 << 62, 1 << 62, 4}},
	}
	for log := range maxLog + 1 {
		size := 1 << log
		tables = append(tables, api.Table{Log: log, Norm: []int{size + 1}}, api.Table{Log: log, Norm: []int{size, 1}}, api.Table{Log: log, Norm: []int{size, -1}})
		tables = append(tables, api.Table{Log: log, Norm: []int{-1, size}}, api.Table{Log: log, Norm: []int{2 * size}}, api.Table{Log: log, Norm: []int{size, 0}})
		if log > 0 {
			tables = append(tables, api.Table{Log: log, Norm: []int{size - 1}}, api.Table{Log: log, Norm: []int{size / 2}}, api.Table{Log: log, Norm: []int{size/2 - 1, -1}})
		}
	}
	return tables
}

// wrongStates returns states that a table of so many states does not have.
func wrongStates(size int) []int {
	return []int{math.MinInt, math.MinInt + 1, math.MinInt32, -size - 1, -size, -2, -1, size, size + 1, 2 * size, math.MaxInt32, 1 << 32, math.MaxInt - 1, math.MaxInt}
}

// wrongSymbols returns symbols that have no states in a table.
func wrongSymbols(x api.Table) []int {
	symbols := []int{math.MinInt, math.MinInt + 1, math.MinInt32, -257, -256, -2, -1, len(x.Norm), len(x.Norm) + 1, 256, 257, 512, 1 << 32, math.MaxInt32, math.MaxInt - 1, math.MaxInt}
	for symbol, n := range x.Norm {
		if n == 0 {
			symbols = append(symbols, symbol)
		}
	}
	return symbols
}

// used returns the symbols that have states in a table.
func used(x api.Table) []int {
	var symbols []int
	for symbol, n := range x.Norm {
		if n != 0 {
			symbols = append(symbols, symbol)
		}
	}
	return symbols
}

// coder returns the Coder of a valid table.
func coder(t *testing.T, x api.Table) *states.Coder {
	t.Helper()
	c, e := states.New(x)
	if e != api.OK || c == nil {
		t.Fatalf("New({%d %v of %d}) = %v, %d", x.Log, brief(x.Norm), len(x.Norm), c, e)
	}
	return c
}

// cellsOf returns the cells of a valid table.
func cellsOf(t *testing.T, x api.Table) []api.Cell {
	t.Helper()
	list, e := cells.Build(x)
	if e != api.OK {
		t.Fatalf("Build({%d %v of %d}): %d", x.Log, brief(x.Norm), len(x.Norm), e)
	}
	return list
}

// stepOf is the chapter's definition of a predecessor: of all states, the one of that symbol whose span contains the state.
func stepOf(t *testing.T, list []api.Cell, state, symbol int) api.Step {
	t.Helper()
	var found []api.Step
	for from, c := range list {
		if c.Symbol == symbol && c.Base <= state && state < c.Base+1<<c.Bits {
			found = append(found, api.Step{State: from, Bits: uint64(state - c.Base), N: c.Bits})
		}
	}
	if len(found) != 1 {
		t.Fatalf("state %d has these predecessors for symbol %d: %v", state, symbol, found)
	}
	return found[0]
}

// predecessor is Predecessor of a state and a symbol that have one.
func predecessor(t *testing.T, c *states.Coder, state, symbol int) api.Step {
	t.Helper()
	got, e := c.Predecessor(state, symbol)
	if e != api.OK {
		t.Fatalf("Predecessor(%d, %d): %d", state, symbol, e)
	}
	return got
}

// next is Next of a state that there is.
func next(t *testing.T, c *states.Coder, state int, bits uint64) int {
	t.Helper()
	got, e := c.Next(state, bits)
	if e != api.OK {
		t.Fatalf("Next(%d, %d): %d", state, bits, e)
	}
	return got
}

// The tables of these tests are what they are said to be.
func TestTheTables(t *testing.T) {
	for _, x := range valid() {
		if norm.Check(x, maxSymbols, maxLog) != api.OK {
			t.Errorf("{%d %v of %d} is not valid", x.Log, brief(x.Norm), len(x.Norm))
		}
	}
	for _, x := range invalid() {
		if norm.Check(x, maxSymbols, maxLog) != api.ErrTable {
			t.Errorf("{%d %v of %d} is valid", x.Log, brief(x.Norm), len(x.Norm))
		}
	}
}
