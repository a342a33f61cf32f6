package desc

import (
	"math/bits"

	"portmanteau/api"
)

// numberBits is the most bits of a number: all are below 2^maxLog + 2.
const numberBits = maxLog + 1

// split returns, for the truncated binary code of the numbers below m, the bits of a short code and how many numbers have one. The code of each other number is one bit longer.
func split(m int) (width, short int) {
	width = bits.Len(uint(m)) - 1
	return width, 2<<width - m
}

// putNumber writes a number below m.
func putNumber(n, m int, put func(v uint64, n int) api.Errno) {
	width, short := split(m)
	if n < short {
		put(uint64(n), width)
		return
	}
	n += short
	put(uint64(n/2), width)
	put(uint64(n%2), 1)
}

// takeNumber reads a number below m.
func takeNumber(m int, take func(n int) int) int {
	width, short := split(m)
	n := take(width)
	if n < short {
		return n
	}
	return 2*n + take(1) - short
}
