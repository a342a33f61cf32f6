package ring

import (
	"bytes"
	"iter"
)

// buffer holds the last bytes of what was pushed into it. It grows up to its limit; from then on it is a circle in which new bytes replace the oldest ones.
type buffer struct {
	limit  int
	held   []byte
	oldest int // the index of the oldest byte, which is 0 until the circle is full
}

// push appends x and forgets what is then too much.
func (b *buffer) push(x []byte) {
	// Of more bytes than the limit, only the last ones would stay.
	x = x[max(0, len(x)-b.limit):]
	added := min(len(x), b.limit-len(b.held))
	b.extend(x[:added:added])
	b.replace(x[added:])
}

// extend appends bytes for which the limit leaves room. The memory is at most doubled, so that a great limit takes none before there are bytes.
func (b *buffer) extend(x []byte) {
	needed := len(b.held) + len(x)
	if needed > cap(b.held) {
		greater := make([]byte, len(b.held), min(b.limit, max(needed, 2*cap(b.held))))
		copy(greater, b.held)
		b.held = greater
	}
	b.held = append(b.held, x...)
}

// replace overwrites the oldest bytes of a full circle with x.
func (b *buffer) replace(x []byte) {
	for len(x) > 0 {
		n := copy(b.held[b.oldest:], x)
		x = x[n:]
		b.oldest = (b.oldest + n) % b.limit
	}
}

// reaches reports whether there is a byte at a distance.
func (b *buffer) reaches(distance int) bool {
	return distance >= 1 && distance <= len(b.held)
}

// stretch returns the bytes from a distance on that lie side by side: up to the last one, or up to where the circle closes. They are the buffer's own memory.
func (b *buffer) stretch(distance int) []byte {
	start := b.oldest + len(b.held) - distance
	if start >= len(b.held) {
		start -= len(b.held)
	}
	end := min(start+distance, len(b.held))
	return b.held[start:end:end]
}

// same reports whether two buffers hold the same bytes.
func (b *buffer) same(other *buffer) bool {
	if len(b.held) != len(other.held) {
		return false
	}
	equal := true
compare:
	for left, right := range b.beside(other) {
		if !bytes.Equal(left, right) {
			equal = false
			break compare
		}
	}
	return equal
}

// beside produces the bytes of two buffers that hold equally many, in pieces that have the same distance in both: their circles may close at different places.
func (b *buffer) beside(other *buffer) iter.Seq2[[]byte, []byte] {
	return func(yield func([]byte, []byte) bool) {
		for distance := len(b.held); distance > 0; {
			left, right := b.stretch(distance), other.stretch(distance)
			n := min(len(left), len(right))
			if !yield(left[:n:n], right[:n:n]) {
				return
			}
			distance -= n
		}
	}
}
