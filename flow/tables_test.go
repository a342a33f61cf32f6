package flow_test

import (
	"math"
	"math/rand"
	"slices"
	"strconv"
	"testing"

	"portmanteau/api"
	"portmanteau/norm"
)

// The document's numbers, written out once more, so that a wrong one in the package shows.
const (
	maxLog     = 9
	maxSymbols = 256
	maxBlock   = 131072
)

// filled returns n numbers that are all the same.
func filled(n, value int) []int { return slices.Repeat([]int{value}, n) }

// joined returns the concatenation of lists, in new memory.
func joined(lists ...[]int) []int { return slices.Concat(lists...) }

// brief shows a list in a message.
func brief[T any](list []T) []T { return list[:min(len(list), 16)] }

// number is the number of states of a norm.
func number(n int) int { return max(n, -n) }

// key returns a text by which a list can be found in a map.
func key(list []int) string {
	text := ""
	for _, n := range list {
		text += strconv.Itoa(n) + " "
	}
	return text
}

// chosen returns valid tables of the kinds that the chapters name.
func chosen() []api.Table {
	tables := []api.Table{
		{Log: 2, Norm: []int{3, 1}}, {Log: 2, Norm: []int{2, -1, 1}}, {Log: 2, Norm: []int{1, 1, 1, 1}}, {Log: 3, Norm: []int{5, 0, 3}}, {Log: 4, Norm: []int{8, 8}},
		{Log: 1, Norm: []int{1, 1}}, {Log: 1, Norm: []int{1, -1}}, {Log: 1, Norm: []int{-1, 1}}, {Log: 1, Norm: []int{-1, -1}},
		{Log: 4, Norm: []int{-1, 15}}, {Log: 4, Norm: []int{15, -1}}, {Log: 4, Norm: []int{5, -1, 4, -1, 4, -1}}, {Log: 6, Norm: []int{-1, 20, -1, 20, 0, 20, -1, 0, -1}},
		{Log: 5, Norm: joined(filled(254, 0), []int{-1, 31})}, {Log: 7, Norm: []int{100, 0, 0, 20, -1, -1, 6}}, {Log: 8, Norm: filled(256, 1)}, {Log: 8, Norm: filled(256, -1)},
		{Log: 9, Norm: []int{511, -1}}, {Log: 9, Norm: []int{-1, 511}}, {Log: 9, Norm: []int{171, 341}}, {Log: 9, Norm: []int{256, 128, 64, 64}},
		{Log: 9, Norm: filled(256, 2)}, {Log: 9, Norm: joined([]int{257}, filled(255, -1))}, {Log: 9, Norm: joined(filled(255, 1), []int{257})},
	}
	return append(tables, single()...)
}

// single returns valid tables of one symbol.
func single() []api.Table {
	var tables []api.Table
	for log := range maxLog + 1 {
		tables = append(tables, api.Table{Log: log, Norm: []int{1 << log}}, api.Table{Log: log, Norm: joined(filled(255, 0), []int{1 << log})})
	}
	return append(tables, api.Table{Log: 0, Norm: []int{-1}}, api.Table{Log: 0, Norm: []int{0, 0, 1}}, api.Table{Log: 0, Norm: joined(filled(255, 0), []int{-1})})
}

// random returns a valid table: the states go to symbols one after the other, in portions of any size, with zeros between them.
func random(source *rand.Rand) api.Table {
	log := source.Intn(maxLog + 1)
	left, portion, rare, zeros := 1<<log, 1+source.Intn(1<<source.Intn(log+1)), source.Intn(4), source.Intn(5)
	norms := []int{}
	for left > 0 {
		n := min(left, 1+source.Intn(portion))
		if len(norms) == maxSymbols-1 {
			n = left
		} else if source.Intn(5) < zeros {
			norms = append(norms, 0)
			continue
		} else if n == 1 && source.Intn(3) < rare {
			n = -1
		}
		norms = append(norms, n)
		left -= number(n)
	}
	return api.Table{Log: log, Norm: norms}
}

// all returns all valid tables of a Log and of at most so many symbols.
func all(log, symbols int) []api.Table {
	var tables []api.Table
	var extend func(left int, norms []int)
	extend = func(left int, norms []int) {
		if left == 0 && norms[len(norms)-1] != 0 {
			tables = append(tables, api.Table{Log: log, Norm: slices.Clone(norms)})
		}
		if left == 0 || len(norms) == symbols {
			return
		}
		for n := -1; n <= left; n++ {
			extend(left-number(n), append(norms, n))
		}
	}
	extend(1<<log, nil)
	return tables
}

// small returns all valid tables of a Log of at most 3 and of few symbols.
func small() []api.Table {
	return slices.Concat(all(0, 3), all(1, 4), all(2, 4), all(3, 3))
}

// valid returns valid tables of many kinds.
func valid() []api.Table {
	tables, source := slices.Concat(chosen(), small()), rand.New(rand.NewSource(12))
	for range 60 {
		tables = append(tables, random(source))
	}
	return tables
}

// invalid returns tables that are not valid.
func invalid() []api.Table {
	tables := []api.Table{
		{}, {Log: 0, Norm: []int{}}, {Log: 3}, {Log: 9, Norm: []int{1}[:0]}, {Log: -1}, {Log: 10}, {Log: math.MinInt}, {Log: math.MaxInt},
		{Log: -1, Norm: []int{1}}, {Log: -1, Norm: []int{-1}}, {Log: 10, Norm: []int{1024}}, {Log: 10, Norm: []int{512}}, {Log: 10, Norm: filled(256, 4)}, {Log: 62, Norm: []int{1 << 62}},
		{Log: 64, Norm: []int{1}}, {Log: math.MaxInt, Norm: []int{1}}, {Log: math.MinInt, Norm: []int{1}}, {Log: math.MaxInt, Norm: []int{math.MaxInt}},
		{Log: 9, Norm: joined(filled(256, 1), []int{256})}, {Log: 9, Norm: joined(filled(256, -1), []int{256})}, {Log: 8, Norm: joined([]int{256}, filled(256, 0))},
		{Log: 0, Norm: joined(filled(256, 0), []int{1})}, {Log: 9, Norm: filled(512, 1)}, {Log: 9, Norm: filled(512, -1)},
		{Log: 2, Norm: []int{6, -2}}, {Log: 2, Norm: []int{2, -2}}, {Log: 1, Norm: []int{-2}}, {Log: 2, Norm: []int{math.MinInt, 4}}, {Log: 3, Norm: []int{math.MinInt, math.MaxInt, 9}},
		{Log: 0, Norm: []int{0}}, {Log: 0, Norm: []int{1, 0}}, {Log: 0, Norm: []int{-1, 0}}, {Log: 2, Norm: []int{3, 1, 0}}, {Log: 1, Norm: []int{0, -1, -1, 0}},
		{Log: 2, Norm: []int{math.MaxInt, math.MaxInt, 6}}, {Log: 2, Norm: []int{1 << 62, 1 << 62, 1 << 62, 1 << 62, 4}},
	}
	for log := range maxLog + 1 {
		size := 1 << log
		tables = append(tables, api.Table{Log: log, Norm: []int{size + 1}}, api.Table{Log: log, Norm: []int{size, 1}}, api.Table{Log: log, Norm: []int{size, -1}}, api.Table{Log: log, Norm: []int{2 * size}})
		if log > 0 {
			tables = append(tables, api.Table{Log: log, Norm: []int{size - 1}}, api.Table{Log: log, Norm: []int{size/2 - 1, -1}})
		}
	}
	return tables
}

// used returns the symbols that have states in a table.
func used(x api.Table) []int {
	var symbols []int
	for symbol, n := range x.Norm {
		if n != 0 {
			symbols = append(symbols, symbol)
		}
	}
	return symbols
}

// wrongSymbols returns symbols that have no states in a table.
func wrongSymbols(x api.Table) []int {
	symbols := []int{math.MinInt, math.MinInt + 1, math.MinInt32, -257, -256, -2, -1, len(x.Norm), len(x.Norm) + 1, 256, 257, 512, 1 << 32, math.MaxInt32, math.MaxInt - 1, math.MaxInt}
	for symbol, n := range x.Norm {
		if n == 0 {
			symbols = append(symbols, symbol)
		}
	}
	return symbols
}

// wrongCounts returns numbers of symbols that no flow has.
func wrongCounts() []int {
	return []int{math.MinInt, math.MinInt + 1, math.MinInt32, -maxBlock, -256, -2, -1, maxBlock + 1, maxBlock + 2, 2 * maxBlock, math.MaxInt32, 1 << 32, math.MaxInt - 1, math.MaxInt}
}

// sequences calls a function with every sequence of so many of the symbols.
func sequences(symbols []int, length int, each func([]int)) {
	var extend func(done []int)
	extend = func(done []int) {
		if len(done) == length {
			each(done)
			return
		}
		for _, symbol := range symbols {
			extend(append(done, symbol))
		}
	}
	extend(nil)
}

// draw returns so many symbols of a table: often by their states, sometimes each as likely as the others.
func draw(source *rand.Rand, x api.Table, length int) []int {
	pool := used(x)
	if source.Intn(2) == 0 {
		var byStates []int
		for _, symbol := range pool {
			byStates = append(byStates, filled(number(x.Norm[symbol]), symbol)...)
		}
		pool = byStates
	}
	list := make([]int, length)
	for i := range list {
		list[i] = pool[source.Intn(len(pool))]
	}
	return list
}

// The tables of these tests are what they are said to be.
func TestTheTables(t *testing.T) {
	for _, x := range valid() {
		if norm.Check(x, maxSymbols, maxLog) != api.OK {
			t.Errorf("{%d %v of %d} is not valid", x.Log, brief(x.Norm), len(x.Norm))
		}
	}
	for _, x := range invalid() {
		if norm.Check(x, maxSymbols, maxLog) != api.ErrTable {
			t.Errorf("{%d %v of %d} is valid", x.Log, brief(x.Norm), len(x.Norm))
		}
	}
}
