package desc

import (
	"slices"

	"portmanteau/api"
	"portmanteau/bitout"
)

const (
	logBits = 4 // the Log, less 1
	runBits = 2 // a part of a run length
	fullRun = 3 // a part of a run length that another part follows
)

// stream returns the bits of a table's description. There is one, so every value fits into its bits and no call of Put fails.
func stream(t api.Table) *bitout.Writer {
	w := new(bitout.Writer)
	w.Put(uint64(t.Log-1), logBits)
	left := 1 << t.Log
	for rest := t.Norm; left > 0; {
		n := rest[0]
		rest = rest[1:]
		putNumber(n+1, left+2, w.Put)
		left -= states(n)
		if n == 0 {
			run := zeros(rest)
			putRun(run, w.Put)
			rest = rest[run:]
		}
	}
	return w
}

// putRun writes a run length.
func putRun(run int, put func(v uint64, n int) api.Errno) {
	for ; run >= fullRun; run -= fullRun {
		put(fullRun, runBits)
	}
	put(uint64(run), runBits)
}

// zeros returns the number of zeros ahead of the first other norm. There is one, since the last norm of a valid table is not 0.
func zeros(norms []int) int {
	return slices.IndexFunc(norms, func(n int) bool { return n != 0 })
}

// states returns the number of states of a norm: a rare symbol, whose norm is -1, has one.
func states(n int) int { return max(n, -n) }
