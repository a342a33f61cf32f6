package limit

import (
	"iter"

	"portmanteau/api"
)

// list is counts or code lengths, indexed by symbol.
type list []int

// check refuses too many numbers, and one that is below 0 or above most.
func (l list) check(most int) {
	require(api.ErrArg, len(l) <= symbols)
	for _, n := range l {
		require(api.ErrArg, n >= 0, n <= most)
	}
}

// used produces the symbols whose number is not 0, and these numbers, in order of increasing symbol.
func (l list) used() iter.Seq2[int, int] {
	return func(yield func(int, int) bool) {
		for symbol, n := range l {
			if n != 0 && !yield(symbol, n) {
				return
			}
		}
	}
}
