package desc_test

import (
	"math"
	"math/rand"
	"slices"
	"testing"

	"portmanteau/api"
	"portmanteau/norm"
)

// The document's numbers, written out once more, so that a wrong one in the package shows.
const (
	maxLog     = 9
	maxSymbols = 256
)

// filled returns n norms that are all the same.
func filled(n, value int) []int { return slices.Repeat([]int{value}, n) }

// joined returns the concatenation of lists, in new memory.
func joined(lists ...[]int) []int { return slices.Concat(lists...) }

// brief shows a list in a message.
func brief[T any](list []T) []T { return list[:min(len(list), 16)] }

// states is the number of states of a norm.
func states(n int) int { return max(n, -n) }

// behind returns so many zeros and then norms.
func behind(zeros int, norms ...int) []int { return joined(filled(zeros, 0), norms) }

// chosen returns valid tables of the kinds that the chapter names, with Log 1 or more.
func chosen() []api.Table {
	tables := []api.Table{
		{Log: 1, Norm: []int{1, 1}}, {Log: 1, Norm: []int{1, -1}}, {Log: 1, Norm: []int{-1, 1}}, {Log: 1, Norm: []int{-1, -1}}, {Log: 2, Norm: []int{4}},
		{Log: 2, Norm: []int{2, -1, 1}}, {Log: 4, Norm: []int{8, 8}}, {Log: 3, Norm: []int{5, 0, 3}}, {Log: 4, Norm: []int{-1, 15}}, {Log: 4, Norm: []int{15, -1}},
		{Log: 4, Norm: []int{5, -1, 4, -1, 4, -1}}, {Log: 3, Norm: []int{0, -1, 0, -1, 0, 6}}, {Log: 6, Norm: []int{-1, 20, -1, 20, 0, 20, -1, 0, -1}}, {Log: 7, Norm: []int{100, 0, 0, 20, -1, -1, 6}},
		{Log: 8, Norm: filled(256, 1)}, {Log: 8, Norm: filled(256, -1)}, {Log: 9, Norm: filled(256, 2)}, {Log: 9, Norm: []int{511, -1}}, {Log: 9, Norm: []int{-1, 511}}, {Log: 9, Norm: []int{256, 128, 64, 64}},
		{Log: 9, Norm: joined(filled(255, 1), []int{257})}, {Log: 9, Norm: joined(filled(255, -1), []int{257})}, {Log: 9, Norm: joined([]int{257}, filled(255, -1))},
		{Log: 9, Norm: slices.Repeat([]int{0, 4}, 128)}, {Log: 9, Norm: joined(slices.Repeat([]int{0, -1}, 127), []int{0, 385})}, {Log: 9, Norm: joined(slices.Repeat([]int{-1, 0}, 127), []int{-1, 384})}, {Log: 9, Norm: joined(slices.Repeat([]int{0, 0, 1}, 85), []int{427})},
		longest(),
	}
	for log := 1; log <= maxLog; log++ {
		tables = append(tables, api.Table{Log: log, Norm: []int{1 << log}})
		for _, zeros := range []int{1, 2, 3, 4, 5, 6, 7, 8, 9, 10, 11, 100, 252, 253, 254, 255} {
			tables = append(tables, api.Table{Log: log, Norm: behind(zeros, 1<<log)})
		}
		for _, zeros := range []int{1, 2, 3, 4, 5, 6, 7, 8, 100, 252, 253, 254} {
			tables = append(tables, api.Table{Log: log, Norm: joined([]int{-1}, behind(zeros, 1<<log-1))}, api.Table{Log: log, Norm: joined([]int{1<<log - 1}, behind(zeros, -1))})
		}
	}
	return tables
}

// longest returns a table with one of the longest descriptions, of 291 bytes: there are as many runs as can be, and most numbers have a long code.
func longest() api.Table {
	few := []int{0, 1}
	return api.Table{Log: 9, Norm: joined(slices.Repeat(few, 5), []int{0, 2, 0, 4, 0, 8, 0, 16, 0, 32, 0, 64}, slices.Repeat(few, 116), []int{0, 265})}
}

// random returns a valid table: the states go to symbols one after the other, in portions of any size, with zeros between them.
func random(source *rand.Rand) api.Table {
	log := 1 + source.Intn(maxLog)
	left, portion, rare, zeros := 1<<log, 1+source.Intn(1<<source.Intn(log+1)), source.Intn(4), source.Intn(8)
	norms := []int{}
	for left > 0 {
		n := min(left, 1+source.Intn(portion))
		if len(norms) == maxSymbols-1 {
			n = left
		} else if source.Intn(8) < zeros {
			norms = append(norms, 0)
			continue
		} else if n == 1 && source.Intn(3) < rare {
			n = -1
		}
		norms = append(norms, n)
		left -= states(n)
	}
	return api.Table{Log: log, Norm: norms}
}

// all returns all valid tables of a Log of 1 or more and of at most so many symbols.
func all(log, symbols int) []api.Table {
	var tables []api.Table
	var extend func(left int, norms []int)
	extend = func(left int, norms []int) {
		if left == 0 {
			tables = append(tables, api.Table{Log: log, Norm: slices.Clone(norms)})
		}
		if left == 0 || len(norms) == symbols {
			return
		}
		for n := -1; n <= left; n++ {
			extend(left-states(n), append(norms, n))
		}
	}
	extend(1<<log, nil)
	return tables
}

// small returns all valid tables of a Log from 1 to 4, of up to so many symbols that they are not too many.
func small() []api.Table {
	return slices.Concat(all(1, 11), all(2, 7), all(3, 5), all(4, 4))
}

// valid returns valid tables of many kinds, with Log 1 or more.
func valid() []api.Table {
	tables, source := append(chosen(), all(1, 6)...), rand.New(rand.NewSource(11))
	tables = append(tables, all(2, 4)...)
	for range 300 {
		tables = append(tables, random(source))
	}
	return tables
}

// flat returns valid tables with Log 0.
func flat() []api.Table {
	var tables []api.Table
	for _, zeros := range []int{0, 1, 2, 3, 4, 100, 254, 255} {
		tables = append(tables, api.Table{Log: 0, Norm: behind(zeros, 1)}, api.Table{Log: 0, Norm: behind(zeros, -1)})
	}
	return tables
}

// invalid returns tables that are not valid.
func invalid() []api.Table {
	tables := []api.Table{
		{}, {Log: 0, Norm: []int{}}, {Log: 3}, {Log: 9, Norm: []int{1}[:0]}, {Log: 1}, {Log: -1}, {Log: 10}, {Log: math.MinInt}, {Log: math.MaxInt},
		{Log: -1, Norm: []int{1}}, {Log: -1, Norm: []int{-1}}, {Log: 10, Norm: []int{1024}}, {Log: 10, Norm: []int{512}}, {Log: 10, Norm: filled(256, 4)}, {Log: 16, Norm: []int{1 << 16}}, {Log: 62, Norm: []int{1 << 62}},
		{Log: 64, Norm: []int{1}}, {Log: math.MaxInt, Norm: []int{1}}, {Log: math.MinInt, Norm: []int{1}}, {Log: math.MaxInt, Norm: []int{math.MaxInt}}, {Log: math.MinInt + 1, Norm: []int{2}},
		{Log: 9, Norm: joined(filled(256, 1), []int{256})}, {Log: 9, Norm: joined(filled(256, -1), []int{256})}, {Log: 8, Norm: joined([]int{256}, filled(256, 0))},
		{Log: 9, Norm: behind(256, 512)}, {Log: 1, Norm: behind(256, 2)}, {Log: 9, Norm: filled(512, 1)}, {Log: 9, Norm: filled(512, -1)},
		{Log: 2, Norm: []int{6, -2}}, {Log: 2, Norm: []int{2, -2}}, {Log: 1, Norm: []int{-2}}, {Log: 2, Norm: []int{-4}}, {Log: 2, Norm: []int{math.MinInt, 4}}, {Log: 3, Norm: []int{math.MinInt, math.MaxInt, 9}},
		{Log: 0, Norm: []int{0}}, {Log: 0, Norm: []int{1, 0}}, {Log: 2, Norm: []int{3, 1, 0}}, {Log: 4, Norm: []int{16, 0, 0}}, {Log: 1, Norm: []int{0, -1, -1, 0}}, {Log: 3, Norm: []int{0}}, {Log: 3, Norm: []int{0, 0, 0}},
		{Log: 2, Norm: []int{math.MaxInt, math.MaxInt, 6}}, {Log: 2, Norm: []int{1 << 62, 1 << 62, 1 << 62, 1 << 62, 4}}, {Log: 2, Norm: []int{math.MaxInt}},
	}
	for log := range maxLog + 1 {
		size := 1 << log
		tables = append(tables, api.Table{Log: log, Norm: []int{size + 1}}, api.Table{Log: log, Norm: []int{size, 1}}, api.Table{Log: log, Norm: []int{size, -1}})
		tables = append(tables, api.Table{Log: log, Norm: []int{-1, size}}, api.Table{Log: log, Norm: []int{2 * size}}, api.Table{Log: log, Norm: []int{size, 0}})
		if log > 0 {
			tables = append(tables, api.Table{Log: log, Norm: []int{size - 1}}, api.Table{Log: log, Norm: []int{size / 2}}, api.Table{Log: log, Norm: []int{size/2 - 1, -1}})
		}
	}
	return tables
}

// The tables of these tests are what they are said to be.
func TestTheTables(t *testing.T) {
	for _, x := range slices.Concat(valid(), small(), flat()) {
		if norm.Check(x, maxSymbols, maxLog) != api.OK {
			t.Errorf("{%d %v of %d} is not valid", x.Log, brief(x.Norm), len(x.Norm))
		}
	}
	for _, x := range invalid() {
		if norm.Check(x, maxSymbols, maxLog) != api.ErrTable {
			t.Errorf("{%d %v of %d} is valid", x.Log, brief(x.Norm), len(x.Norm))
		}
	}
}
