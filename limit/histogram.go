package limit

import (
	"cmp"
	"slices"

	"portmanteau/api"
)

// histogram is a valid histogram under inspection.
type histogram struct {
	list
	distinct int
}

// inspect returns the histogram of counts, which it refuses if they are invalid. It shares their memory, but has no room behind them that an append could write into.
func inspect(counts []int) histogram {
	h := histogram{list: counts[:len(counts):len(counts)]}
	h.check(api.MaxCount)
	for range h.used() {
		h.distinct++
	}
	return h
}

// cost returns the cost of valid code lengths, which it refuses if a used symbol has none.
func (h histogram) cost(lengths list) int {
	cost := 0
	for symbol, count := range h.used() {
		require(api.ErrLimit, symbol < len(lengths) && lengths[symbol] > 0)
		cost += count * lengths[symbol]
	}
	return cost
}

// leaves returns a package of each used symbol, in order of increasing weight.
func (h histogram) leaves() []pack[[]int] {
	leaves := make([]pack[[]int], 0, h.distinct)
	for symbol, count := range h.used() {
		leaves = append(leaves, pack[[]int]{count, []int{symbol}})
	}
	slices.SortStableFunc(leaves, func(a, b pack[[]int]) int { return cmp.Compare(a.weight, b.weight) })
	return leaves
}

// optimal returns code lengths of minimal cost that do not exceed most, for 2 to 2^most used symbols.
func (h histogram) optimal(most int) []int {
	leaves := h.leaves()
	packs := leaves
	for range most - 1 {
		packs = merge(leaves, pairs(packs, func(a, b []int) []int { return slices.Concat(a, b) }))
	}
	// A package of the last round is worth 2^-1, one of the round before it 2^-2, and so on: these are worth one less than there are symbols. A symbol that is in them k times has a part of 1 - 2^-k in that, so the 2^-k of all symbols sum to 1.
	bought := 2*h.distinct - 2
	lengths := make([]int, len(h.list))
	for _, p := range packs[:bought:bought] {
		for _, symbol := range p.content {
			lengths[symbol]++
		}
	}
	return lengths
}
