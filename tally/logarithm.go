package tally

import "math/bits"

// fractionBits is the number of bits of a logarithm behind the point.
const fractionBits = 8

// logarithm returns the logarithm of n, which is at least 1. It shifts instead of multiplying, since 256 times a great n would overflow.
func logarithm(n int) int {
	k := bits.Len64(uint64(n)) - 1
	above := n - 1<<k
	if k < fractionBits {
		return k<<fractionBits + above<<(fractionBits-k)
	}
	return k<<fractionBits + above>>(k-fractionBits)
}
