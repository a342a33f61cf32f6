package num

import "portmanteau/api"

// Cursor reads a byte slice from front to back. The zero Cursor reads an empty one.
type Cursor struct {
	data []byte // never written after New, so copies of a cursor may share it
	at   int
}

// New returns a cursor over a copy of b.
func New(b []byte) *Cursor { return &Cursor{data: extend(b, 0)} }

// Byte reads a byte.
func (c *Cursor) Byte() (byte, api.Errno) {
	return read(c, func() (byte, api.Errno) { return c.nextByte() })
}

// Bytes reads n bytes.
func (c *Cursor) Bytes(n int) ([]byte, api.Errno) {
	return read(c, func() ([]byte, api.Errno) {
		b, e := c.next(n)
		if e != api.OK {
			return nil, e
		}
		return extend(b, 0), api.OK
	})
}

// Word reads a 32-bit little-endian word.
func (c *Cursor) Word() (uint32, api.Errno) {
	return read(c, func() (uint32, api.Errno) {
		b, e := c.next(wordBytes)
		if e != api.OK {
			return 0, e
		}
		word := uint32(0)
		for i, x := range b {
			word |= uint32(x) << (8 * i)
		}
		return word, api.OK
	})
}

// Varint reads a varint.
func (c *Cursor) Varint() (uint64, api.Errno) {
	return read(c, func() (uint64, api.Errno) { return c.nextVarint() })
}

// Number reads a varint that is at most most.
func (c *Cursor) Number(most int) (int, api.Errno) {
	return read(c, func() (int, api.Errno) {
		n, e := c.nextVarint()
		if e != api.OK {
			return 0, e
		}
		if n > uint64(max(most, 0)) {
			return 0, api.ErrLimit
		}
		return int(n), api.OK
	})
}

// Sub reads n bytes and returns a cursor over them.
func (c *Cursor) Sub(n int) (*Cursor, api.Errno) {
	return read(c, func() (*Cursor, api.Errno) {
		b, e := c.next(n)
		if e != api.OK {
			return nil, e
		}
		return New(b), api.OK
	})
}

// At returns the number of bytes read.
func (c *Cursor) At() int {
	if c == nil {
		return 0
	}
	return c.at
}

// Left returns the number of bytes not yet read.
func (c *Cursor) Left() int {
	if c == nil {
		return 0
	}
	return len(c.data) - c.at
}

// Rest returns a copy of the bytes not yet read.
func (c *Cursor) Rest() []byte { return c.Peek(c.Left()) }

// Peek returns a copy of the next n bytes, or of fewer at the end, without reading them.
func (c *Cursor) Peek(n int) []byte {
	if c == nil {
		return nil
	}
	end := c.at + min(max(n, 0), c.Left())
	return extend(c.data[c.at:end], 0)
}

// End returns ErrTrail if bytes are left.
func (c *Cursor) End() api.Errno {
	if c == nil {
		return api.ErrNil
	}
	if c.Left() > 0 {
		return api.ErrTrail
	}
	return api.OK
}

// read runs one read of c. What take had already passed when it failed is given back, so take may advance as it goes.
func read[T any](c *Cursor, take func() (T, api.Errno)) (value T, e api.Errno) {
	if c == nil {
		return value, api.ErrNil
	}
	start := c.at
	defer func() {
		if e != api.OK {
			c.at = start
		}
	}()
	return take()
}

// next passes n bytes and returns them without copying them: they are the cursor's own, not to be handed out.
func (c *Cursor) next(n int) ([]byte, api.Errno) {
	if n < 0 {
		return nil, api.ErrArg
	}
	if n > c.Left() {
		return nil, api.ErrShort
	}
	start := c.at
	c.at += n
	return c.data[start:c.at], api.OK
}

// nextByte passes one byte and returns it.
func (c *Cursor) nextByte() (byte, api.Errno) {
	b, e := c.next(1)
	if e != api.OK {
		return 0, e
	}
	return b[0], api.OK
}

// nextVarint passes a varint and returns its value.
func (c *Cursor) nextVarint() (uint64, api.Errno) {
	value := uint64(0)
	for i := range varintBytes {
		x, e := c.nextByte()
		if e != api.OK {
			return 0, e
		}
		value |= uint64(x&^more) << (groupBits * i)
		if x < more {
			return checkVarint(value, i > 0 && x == 0)
		}
	}
	return 0, api.ErrLimit
}

// checkVarint returns the value of a varint that was read to its last byte, or why it is not one; padded says that its last byte adds nothing.
func checkVarint(value uint64, padded bool) (uint64, api.Errno) {
	if padded {
		return 0, api.ErrMinimal
	}
	if value > api.MaxNumber {
		return 0, api.ErrLimit
	}
	return value, api.OK
}
