package bitout

// pending holds the bits that do not yet fill a byte. Between two calls of Put they are fewer than eight, so there is always room for an end mark.
type pending struct {
	bits  byte // the first one lowest, with zeros above the last one
	count int
}

// add takes as many of the low n bits of v as there is room for, and returns how many; v has no other bits.
func (p *pending) add(v uint64, n int) int {
	added := min(n, byteBits-p.count)
	p.bits |= byte(v) << p.count // what goes beyond the byte is lost here and is still in the caller's v
	p.count += added
	return added
}

// filled tells whether there is no more room.
func (p *pending) filled() bool { return p.count == byteBits }

// drain returns the byte and leaves none pending.
func (p *pending) drain() byte {
	whole := p.bits
	*p = pending{}
	return whole
}

// padded returns the pending bits with zeros behind them.
func (p *pending) padded() byte { return p.bits }

// marked returns the pending bits with the end mark behind them.
func (p *pending) marked() byte { return p.bits | 1<<p.count }
