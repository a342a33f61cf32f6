package states

import "portmanteau/api"

// collect returns the states of every symbol of a valid table, in increasing order, from the symbol of each state.
func collect(t api.Table, symbols []int) [][]int {
	owned := make([][]int, len(t.Norm))
	for state := range 1 << t.Log {
		owner := symbols[state]
		owned[owner] = append(owned[owner], state)
	}
	return owned
}

// own returns the states of a symbol, of which there is at least one.
func (c *Coder) own(symbol int) ([]int, api.Errno) {
	if c.none() {
		return nil, api.ErrNil
	}
	if symbol < 0 || symbol >= len(c.owned) || len(c.owned[symbol]) == 0 {
		return nil, api.ErrArg
	}
	return c.owned[symbol], api.OK
}

// place returns which of a symbol's n states has the span with a given state; x is the given state plus the number of all states.
// The span of the symbol's state k begins at (n+k)<<Bits minus the number of all states, so it has just those x of which n+k is left without the low Bits bits. Halving x meets the numbers from n to 2n-1 once, so there is one such k.
func place(x, n int) int {
	for x >= 2*n {
		x /= 2
	}
	return x - n
}
