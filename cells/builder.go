package cells

import (
	"math/bits"

	"portmanteau/api"
)

// builder returns a function that makes the cells of a valid table, one in each call: it is to be given the symbols of the states in the order of the states, because a cell hangs on how many states of its symbol are below.
func builder(t api.Table) func(symbol int) api.Cell {
	seen := map[int]int{}
	return func(symbol int) api.Cell {
		x := states(t.Norm[symbol]) + seen[symbol]
		seen[symbol]++
		width := t.Log - floorLog2(x)
		return api.Cell{Symbol: symbol, Bits: width, Base: x<<width - 1<<t.Log}
	}
}

// states returns the number of states of a norm: a rare symbol, whose norm is -1, has one.
func states(n int) int { return max(n, -n) }

// floorLog2 returns the logarithm of a positive number, rounded down.
func floorLog2(x int) int { return bits.Len(uint(x)) - 1 }

// span returns the first possible next state of a cell and their number.
func span(c api.Cell) [2]int { return [2]int{c.Base, 1 << c.Bits} }
