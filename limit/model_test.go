package limit_test

import (
	"math/big"
	"slices"

	"portmanteau/api"
)

// The chapter's definitions, stated a second time: errors as lists of conditions in its order, Kraft's sum with integers of any size, and minimal costs by three ways that are not the package's.

// histogramValid tells whether counts are a valid histogram.
func histogramValid(counts []int) bool {
	return len(counts) <= maxSymbols && !slices.ContainsFunc(counts, func(n int) bool { return n < 0 || n > maxCount })
}

// lengthsValid tells whether lengths are code lengths.
func lengthsValid(lengths []int) bool {
	return len(lengths) <= maxSymbols && !slices.ContainsFunc(lengths, func(n int) bool { return n < 0 || n > maxFree })
}

// positive returns the numbers of a list that are above 0, from the greatest to the least.
func positive(list []int) []int {
	numbers := []int{}
	for _, n := range list {
		if n > 0 {
			numbers = append(numbers, n)
		}
	}
	slices.Sort(numbers)
	slices.Reverse(numbers)
	return numbers
}

// total is the sum of a list.
func total(list []int) int {
	sum := 0
	for _, n := range list {
		sum += n
	}
	return sum
}

// maximumError is the error of a histogram with a maximum.
func maximumError(counts []int, most int) api.Errno {
	switch {
	case !histogramValid(counts) || most < 1 || most > maxCodeLen:
		return api.ErrArg
	case len(positive(counts)) < 2:
		return api.ErrNone
	case len(positive(counts)) > 1<<most:
		return api.ErrLimit
	}
	return api.OK
}

// costOf is the cost of lengths for a histogram, or the error of asking for it.
func costOf(counts, lengths []int) (*big.Int, api.Errno) {
	if !histogramValid(counts) || !lengthsValid(lengths) {
		return big.NewInt(0), api.ErrArg
	}
	cost := new(big.Int)
	for symbol, count := range counts {
		if count > 0 && (symbol >= len(lengths) || lengths[symbol] == 0) {
			return big.NewInt(0), api.ErrLimit
		}
		if count > 0 {
			cost.Add(cost, new(big.Int).Mul(big.NewInt(int64(count)), big.NewInt(int64(lengths[symbol]))))
		}
	}
	return cost, api.OK
}

// kraftSum is the sum in Kraft's inequality of valid lengths, in units of 2^-60: it is held against unit.
func kraftSum(lengths []int) *big.Int {
	sum := new(big.Int)
	for _, length := range lengths {
		if length > 0 {
			sum.Add(sum, new(big.Int).Lsh(big.NewInt(1), uint(maxFree-length)))
		}
	}
	return sum
}

// unit is 1, in units of 2^-60.
func unit() *big.Int { return new(big.Int).Lsh(big.NewInt(1), maxFree) }

// every calls visit with all lists of n numbers from low to high. The list is only lent to it.
func every(n, low, high int, visit func(list []int)) {
	list := make([]int, n)
	var set func(at int)
	set = func(at int) {
		if at == n {
			visit(list)
			return
		}
		for list[at] = low; list[at] <= high; list[at]++ {
			set(at + 1)
		}
	}
	set(0)
}

// codes returns the lengths of every code for n symbols that satisfies Kraft's inequality and does not exceed most.
func codes(n, most int) [][]int {
	var all [][]int
	every(n, 1, most, func(lengths []int) {
		if kraftSum(lengths).Cmp(unit()) <= 0 {
			all = append(all, slices.Clone(lengths))
		}
	})
	return all
}

// cheapestOf is the minimal cost among codes for the used symbols.
func cheapestOf(codes [][]int, used []int) int {
	cheapest := -1
	for _, lengths := range codes {
		cost := 0
		for k, count := range used {
			cost += count * lengths[k]
		}
		if cheapest < 0 || cost < cheapest {
			cheapest = cost
		}
	}
	return cheapest
}

// huffman is the minimal cost without a maximum: what Huffman's algorithm adds up, which is to join the two smallest counts until there is one. It is for two used symbols or more.
func huffman(counts []int) int {
	left, cost := positive(counts), 0
	for len(left) > 1 {
		last := len(left) - 1
		joined := left[last] + left[last-1]
		cost += joined
		left = left[:last-1]
		at, _ := slices.BinarySearchFunc(left, joined, func(a, b int) int { return b - a })
		left = slices.Insert(left, at, joined)
	}
	return cost
}

// levels finds minimal costs with a maximum level by level of the code's tree: of the nodes of a level some are the code words of the greatest counts that are left, and from each other one two nodes come on the next level.
type levels struct {
	left []int // the sum of the counts that are left, by the number of those that have a code word
	seen map[int][]int
}

// newLevels returns the levels of a histogram with two used symbols or more.
func newLevels(counts []int) levels {
	used := positive(counts)
	left := make([]int, len(used)+1)
	for k := len(used) - 1; k >= 0; k-- {
		left[k] = left[k+1] + used[k]
	}
	return levels{left: left, seen: map[int][]int{}}
}

// limited is the minimal cost with a maximum that allows for so many symbols.
func (l levels) limited(most int) int { return l.left[0] + l.cheapest(most-1, 0, 2) }

// impossible is more than any cost.
const impossible = 1 << 60

// cheapest is the least that the bits below a level cost, with so many levels below it, so many code words given above it, and so many nodes on it. There are never more nodes than symbols that are left.
func (l levels) cheapest(below, given, nodes int) int {
	all := len(l.left) - 1
	symbols := all - given
	if nodes == symbols {
		return 0
	}
	if below == 0 {
		return impossible
	}
	costs := l.seen[below]
	if costs == nil {
		costs = make([]int, all*all)
		l.seen[below] = costs
	}
	best := &costs[given*all+nodes]
	if *best > 0 {
		return *best
	}
	*best = impossible
	for words := range nodes {
		next := min(2*(nodes-words), symbols-words)
		*best = min(*best, l.left[given+words]+l.cheapest(below-1, given+words, next))
	}
	return *best
}
