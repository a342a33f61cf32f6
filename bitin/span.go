package bitin

import "portmanteau/api"

// span is the unread bits of a stream: those from start up to end, as bit positions. A reader moves one of the two and leaves the other.
type span struct {
	data  []byte // never written after a reader is made, so copies of a reader may share it
	start int
	end   int
}

// count returns the number of unread bits.
func (s *span) count() int { return s.end - s.start }

// check returns the error of a read of n bits; short is the one for too few unread bits.
func (s *span) check(n int, short api.Errno) api.Errno {
	if n < 0 || n > maxBits {
		return api.ErrArg
	}
	if n > s.count() {
		return short
	}
	return api.OK
}

// value returns the n bits from position from on, the first one lowest. The stream has them all, and n is at most 64.
func (s *span) value(from, n int) uint64 {
	value, done := uint64(0), 0
	extract := func(x byte, skipped int) {
		many := min(byteBits-skipped, n-done)
		value |= (uint64(x>>skipped) & (1<<many - 1)) << done
		done += many
	}
	for done < n {
		at := from + done
		extract(s.data[at/byteBits], at%byteBits)
	}
	return value
}
