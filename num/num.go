// Package num is layer 1, numbers and byte cursors: see shared/doc/01-num.md.
package num

import (
	"iter"

	"portmanteau/api"
)

const (
	wordBytes   = 4
	varintBytes = 9 // the most that any varint up to MaxNumber needs
	groupBits   = 7
	more        = 1 << groupBits // the high bit of a varint's byte: another one follows
)

// PutWord appends a 32-bit little-endian word to a copy of b.
func PutWord(b []byte, n uint32) []byte {
	out := extend(b, wordBytes)
	for i := range wordBytes {
		out = append(out, byte(n>>(8*i)))
	}
	return out
}

// PutVarint appends a varint to a copy of b.
func PutVarint(b []byte, n uint64) ([]byte, api.Errno) {
	if n > api.MaxNumber {
		return nil, api.ErrArg
	}
	out := extend(b, varintBytes)
	for x := range groups(n) {
		out = append(out, x)
	}
	return out, api.OK
}

// Size returns the number of bytes of a varint, or 0 if n is above MaxNumber.
func Size(n uint64) int {
	if n > api.MaxNumber {
		return 0
	}
	size := 0
	for range groups(n) {
		size++
	}
	return size
}

// groups produces the bytes of the varint of n.
func groups(n uint64) iter.Seq[byte] {
	return func(yield func(byte) bool) {
		rest := n // a copy, so that the iterator can be used again
		for rest >= more {
			if !yield(byte(rest) | more) {
				return
			}
			rest >>= groupBits
		}
		yield(byte(rest))
	}
}

// extend returns a copy of b that has room for so many bytes, so that appending to it never writes into the caller's memory.
func extend(b []byte, room int) []byte {
	out := make([]byte, len(b), len(b)+room)
	copy(out, b)
	return out
}
