package tally

import (
	"cmp"
	"iter"
	"slices"

	"portmanteau/api"
)

// list is the counts of a valid histogram, indexed by symbol.
type list []int

// entry is a used symbol and its count.
type entry struct {
	symbol int
	count  int
}

// histogram is a valid histogram under inspection.
type histogram struct {
	list
	total    int
	greatest int
}

// inspect returns the histogram of valid counts. It shares their memory, but has no room behind them that an append could write into.
func inspect(counts []int) histogram {
	h := histogram{list: counts[:len(counts):len(counts)]}
	for _, count := range h.used() {
		h.total += count
		h.greatest = max(h.greatest, count)
	}
	return h
}

// used produces the used symbols and their counts, in order of increasing symbol.
func (l list) used() iter.Seq2[int, int] {
	return func(yield func(int, int) bool) {
		for symbol, count := range l {
			if count > 0 && !yield(symbol, count) {
				return
			}
		}
	}
}

// distinct returns the number of used symbols.
func (l list) distinct() int {
	many := 0
	for range l.used() {
		many++
	}
	return many
}

// increasing returns the used symbols and their counts, in order of increasing count and, among equal counts, of increasing symbol.
func (l list) increasing() []entry {
	entries := make([]entry, 0, len(l))
	for symbol, count := range l.used() {
		entries = append(entries, entry{symbol, count})
	}
	// Stable, since equal counts are in order already.
	slices.SortStableFunc(entries, func(a, b entry) int { return cmp.Compare(a.count, b.count) })
	return entries
}

// mostFrequent returns the first symbol with the greatest count.
func (h histogram) mostFrequent() (int, api.Errno) {
	first, e := 0, api.ErrNone
search:
	for symbol, count := range h.used() {
		if count == h.greatest {
			first, e = symbol, api.OK
			break search
		}
	}
	return first, e
}

// plus returns the sum of h and a histogram that is not longer. Two valid counts cannot overflow an int, so a sum that is too great is found behind the loop.
func (h histogram) plus(short histogram) ([]int, api.Errno) {
	sums := slices.Clone(h.list)
	for symbol, count := range short.used() {
		sums[symbol] += count
	}
	if Check(sums) != api.OK {
		goto invalid
	}
	return sums, api.OK
invalid:
	return nil, api.ErrArg
}

// cost returns the cost in units of 1/256 bit.
func (h histogram) cost() int {
	cost := 0
	for _, count := range h.used() {
		cost += count * (logarithm(h.total) - logarithm(count))
	}
	return cost
}
