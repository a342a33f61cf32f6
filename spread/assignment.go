package spread

import "iter"

// rare is the norm of a rare symbol.
const rare = -1

// assignment is the symbol of each index that has been given away: an index that is not in it is free.
type assignment map[int]int

// fromTop gives each symbol one index, from the highest one down.
func (a assignment) fromTop(size int, symbols []int) {
	for i, symbol := range symbols {
		a[size-1-i] = symbol
	}
}

// inVisits gives the symbols the free indices, in the order of the visits. In a valid table there are as many symbols here as free indices.
func (a assignment) inVisits(size int, symbols []int) {
	for index := range visits(size) {
		if _, taken := a[index]; taken {
			continue
		}
		a[index] = symbols[0]
		symbols = symbols[1:]
	}
}

// list returns the symbols in the order of their indices.
func (a assignment) list(size int) []int {
	symbols := make([]int, size)
	for index := range symbols {
		symbols[index] = a[index]
	}
	return symbols
}

// visits yields every index below a size once, in the order in which symbols get them.
func visits(size int) iter.Seq[int] {
	return func(yield func(int) bool) {
		step := Step(size)
		for index, left := 0, size; left > 0 && yield(index); left-- {
			index = (index + step) % size
		}
	}
}

// rareSymbols returns the rare symbols, in increasing order.
func rareSymbols(norms []int) []int {
	var symbols []int
	for symbol, n := range norms {
		if n == rare {
			symbols = append(symbols, symbol)
		}
	}
	return symbols
}

// otherStates returns the symbol of each state that is no rare symbol's, in increasing order.
func otherStates(norms []int) []int {
	var symbols []int
	for symbol, n := range norms {
		for range n { // not at all for a rare one
			symbols = append(symbols, symbol)
		}
	}
	return symbols
}
