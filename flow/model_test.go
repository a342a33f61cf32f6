package flow_test

import (
	"slices"
	"strings"
	"testing"

	"portmanteau/api"
	"portmanteau/cells"
)

// A stream is a text of the digits 0 and 1, in the order in which the bits were written; spaces are for the eye.

// closed returns the bytes of a closed stream.
func closed(stream string) []byte {
	stream = strings.ReplaceAll(stream, " ", "") + "1"
	b := make([]byte, (len(stream)+7)/8)
	for i, digit := range stream {
		if digit == '1' {
			b[i/8] |= 1 << (i % 8)
		}
	}
	return b
}

// opened returns the stream of which bytes are the closed one, and whether there is one.
func opened(b []byte) (string, bool) {
	if len(b) == 0 || b[len(b)-1] == 0 {
		return "", false
	}
	var stream strings.Builder
	for i := range 8 * len(b) {
		stream.WriteByte('0' + b[i/8]>>(i%8)&1)
	}
	return strings.TrimSuffix(strings.TrimRight(stream.String(), "0"), "1"), true
}

// digits returns the n lowest bits of a value, the least significant one first.
func digits(value, n int) string {
	var stream strings.Builder
	for i := range n {
		stream.WriteByte(byte('0' + value>>i&1))
	}
	return stream.String()
}

// source is a stream that is read from its end.
type source struct {
	stream string
	short  bool
}

// take reads the value of n bits, if they are there.
func (s *source) take(n int) int {
	if s.short || n > len(s.stream) {
		s.short = true
		return 0
	}
	at, v := len(s.stream)-n, 0
	for i, digit := range s.stream[at:] {
		v += int(digit-'0') << i
	}
	s.stream = s.stream[:at]
	return v
}

// model is the chapter's definition, of a table.
type model struct {
	table api.Table
	cells []api.Cell
}

// modelOf returns the model of a valid table.
func modelOf(t *testing.T, x api.Table) model {
	t.Helper()
	list, e := cells.Build(x)
	if e != api.OK {
		t.Fatalf("Build({%d %v of %d}): %d", x.Log, brief(x.Norm), len(x.Norm), e)
	}
	return model{x, list}
}

// decode returns the n symbols of a flow, or ErrBits if the bytes are not one.
func (m model) decode(b []byte, n int) ([]int, api.Errno) {
	stream, is := opened(b)
	if !is {
		return nil, api.ErrBits
	}
	s := source{stream: stream}
	var even, odd int
	if n >= 1 {
		even = s.take(m.table.Log)
	}
	if n >= 2 {
		odd = s.take(m.table.Log)
	}
	var symbols []int
	for i := 0; i < n && !s.short; i++ {
		state := &even
		if i%2 == 1 {
			state = &odd
		}
		cell := m.cells[*state]
		symbols = append(symbols, cell.Symbol)
		if i+2 < n {
			*state = cell.Base + s.take(cell.Bits)
		}
	}
	if s.short || s.stream != "" {
		return nil, api.ErrBits
	}
	return symbols, api.OK
}

// paths returns, for each state that decodes to the last one of some symbols, the states through which one state gets there by way of all of them.
func (m model) paths(symbols []int) [][]int {
	var all [][]int
	for state, cell := range m.cells {
		if len(symbols) == 0 || cell.Symbol != symbols[len(symbols)-1] {
			continue
		}
		path := []int{state}
		for _, symbol := range slices.Backward(symbols[:len(symbols)-1]) {
			before := slices.IndexFunc(m.cells, func(c api.Cell) bool {
				return c.Symbol == symbol && c.Base <= path[0] && path[0] < c.Base+1<<c.Bits
			})
			path = slices.Insert(path, 0, before)
		}
		all = append(all, path)
	}
	if len(symbols) == 0 {
		all = append(all, nil)
	}
	return all
}

// flows returns the streams of all flows of some symbols.
func (m model) flows(symbols []int) []string {
	var turns [2][]int
	for i, symbol := range symbols {
		turns[i%2] = append(turns[i%2], symbol)
	}
	var streams []string
	for _, even := range m.paths(turns[0]) {
		for _, odd := range m.paths(turns[1]) {
			streams = append(streams, m.stream([2][]int{even, odd}, len(symbols)))
		}
	}
	return streams
}

// stream returns what is written when the two states go these ways: what is read first is written last.
func (m model) stream(paths [2][]int, n int) string {
	stream := ""
	for i := range min(n, 2) {
		stream = digits(paths[i][0], m.table.Log) + stream
	}
	for i := range n {
		if i+2 < n {
			cell := m.cells[paths[i%2][i/2]]
			stream = digits(paths[i%2][i/2+1]-cell.Base, cell.Bits) + stream
		}
	}
	return stream
}

// streams calls a function with every stream of so many bits at most.
func streams(most int, each func(string)) {
	for n := range most + 1 {
		for value := range 1 << n {
			each(digits(value, n))
		}
	}
}

// The model itself: the flows of some symbols are just the streams that decode to them.
func TestTheModel(t *testing.T) {
	for _, x := range []api.Table{{Log: 2, Norm: []int{3, 1}}, {Log: 2, Norm: []int{-1, 2, 0, 1}}, {Log: 1, Norm: []int{1, -1}}, {Log: 2, Norm: []int{4}}, {Log: 0, Norm: []int{0, 1}}} {
		m := modelOf(t, x)
		for n := range 5 {
			found := map[string][]string{} // by symbols
			streams(n*x.Log, func(stream string) {
				if symbols, e := m.decode(closed(stream), n); e == api.OK {
					found[key(symbols)] = append(found[key(symbols)], stream)
				}
			})
			sequences(used(x), n, func(symbols []int) {
				got := m.flows(symbols)
				slices.Sort(got)
				want := found[key(symbols)]
				slices.Sort(want)
				if !slices.Equal(got, want) {
					t.Fatalf("%v: the flows of %v are %q, want %q", x, symbols, got, want)
				}
			})
		}
	}
}
