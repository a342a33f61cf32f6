package limit

import (
	"iter"

	"portmanteau/api"
)

// census is the number of symbols of each code length.
type census [api.MaxFree + 1]int

// survey returns the census of lengths, which it refuses if they are invalid.
func survey(lengths list) census {
	lengths.check(api.MaxFree)
	var c census
	for _, length := range lengths.used() {
		c[length]++
	}
	return c
}

// greatest returns the greatest length that a symbol has, or 0 if none has one.
func (c census) greatest() int {
	length := api.MaxFree
	for length > 0 && c[length] == 0 {
		length--
	}
	return length
}

// each produces the lengths from 1 to the greatest, and how many symbols have them.
func (c census) each() iter.Seq2[int, int] {
	last := c.greatest()
	return func(yield func(int, int) bool) {
		for length := 1; length <= last; length++ {
			if !yield(length, c[length]) {
				return
			}
		}
	}
}
