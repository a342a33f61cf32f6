package flow_test

import (
	"bytes"
	"math"
	"math/rand"
	"slices"
	"strings"
	"testing"

	"portmanteau/api"
	"portmanteau/flow"
)

// encode is Encode of symbols that have a flow. It holds the flow against the chapter's definition.
func encode(t *testing.T, m model, symbols []int) []byte {
	t.Helper()
	b, e := flow.Encode(m.table, symbols)
	if e != api.OK {
		t.Fatalf("Encode({%d %v of %d}, %v of %d): %d", m.table.Log, brief(m.table.Norm), len(m.table.Norm), brief(symbols), len(symbols), e)
	}
	if got, e := m.decode(b, len(symbols)); e != api.OK || !slices.Equal(got, symbols) {
		t.Fatalf("Encode({%d %v of %d}, %v of %d) = % x of %d, a flow of %v of %d, %d", m.table.Log, brief(m.table.Norm), len(m.table.Norm), brief(symbols), len(symbols), brief(b), len(b), brief(got), len(got), e)
	}
	return b
}

// wantEncodeError encodes what has no flow.
func wantEncodeError(t *testing.T, x api.Table, symbols []int, want api.Errno) {
	t.Helper()
	if b, e := flow.Encode(x, symbols); len(b) != 0 || e != want {
		t.Errorf("Encode({%d %v of %d}, %v of %d) = % x of %d, %d, want error %d", x.Log, brief(x.Norm), len(x.Norm), brief(symbols), len(symbols), brief(b), len(b), e, want)
	}
}

// wantSymbols decodes a flow.
func wantSymbols(t *testing.T, x api.Table, b []byte, want []int) {
	t.Helper()
	if got, e := flow.Decode(x, b, len(want)); e != api.OK || !slices.Equal(got, want) {
		t.Errorf("Decode({%d %v of %d}, % x of %d, %d) = %v of %d, %d, want %v of %d", x.Log, brief(x.Norm), len(x.Norm), brief(b), len(b), len(want), brief(got), len(got), e, brief(want), len(want))
	}
}

// wantDecodeError decodes what is no flow.
func wantDecodeError(t *testing.T, x api.Table, b []byte, n int, want api.Errno) {
	t.Helper()
	if got, e := flow.Decode(x, b, n); len(got) != 0 || e != want {
		t.Errorf("Decode({%d %v of %d}, % x of %d, %d) = %v of %d, %d, want error %d", x.Log, brief(x.Norm), len(x.Norm), brief(b), len(b), n, brief(got), len(got), e, want)
	}
}

// wantAsModel holds Decode against the chapter's definition, and returns its error.
func wantAsModel(t *testing.T, m model, b []byte, n int) api.Errno {
	t.Helper()
	want, e := m.decode(b, n)
	if e != api.OK {
		wantDecodeError(t, m.table, b, n, e)
	} else {
		wantSymbols(t, m.table, b, want)
	}
	return e
}

// The table of examples

func TestExamples(t *testing.T) {
	x := api.Table{Log: 2, Norm: []int{3, 1}}
	wantSymbols(t, x, []byte{0x13}, []int{0, 1})
	wantSymbols(t, x, []byte{0x01}, nil)
	wantDecodeError(t, x, []byte{0x02}, 0, api.ErrBits)
	wantDecodeError(t, x, nil, 0, api.ErrBits)
}

// P12.1

// sample is symbols with a flow of theirs.
type sample struct {
	table   api.Table
	symbols []int
	stream  string // the last step first, the first state last
}

// handmade returns flows that were written by hand. They are the only ones of their symbols, since the last two symbols have one state each.
func handmade() []sample {
	x := api.Table{Log: 2, Norm: []int{3, 1}} // Symbol, Bits, Base by states: 0 1 2, 0 0 0, 0 0 1, 1 2 0
	y := api.Table{Log: 2, Norm: []int{-1, 2, -1}}
	z := api.Table{Log: 0, Norm: []int{0, -1}}
	return []sample{
		{x, nil, ""}, {x, []int{1}, "11"}, {x, []int{1, 1}, "11 11"}, {x, []int{0, 1, 1}, "1 11 00"}, {x, []int{1, 1, 1}, "11 11 11"},
		{x, []int{1, 0, 1, 1}, "1 11 00 11"}, {x, []int{0, 1, 1, 1}, "11 1 11 00"}, {x, []int{0, 0, 1, 1}, "1 1 00 00"}, {x, []int{0, 0, 0, 1, 1}, "1 1 00 10"},
		{y, nil, ""}, {y, []int{0}, "11"}, {y, []int{2}, "01"}, {y, []int{0, 2}, "01 11"}, {y, []int{2, 0}, "11 01"}, {y, []int{1, 0, 2}, "0 11 10"}, {y, []int{1, 2, 0}, "1 01 10"}, {y, []int{2, 0, 2, 0}, "11 01 11 01"},
		{z, nil, ""}, {z, []int{1}, ""}, {z, []int{1, 1}, ""}, {z, []int{1, 1, 1}, ""}, {z, filled(1000, 1), ""},
	}
}

func TestEncodeOfKnownFlows(t *testing.T) {
	for _, x := range handmade() {
		if got := encode(t, modelOf(t, x.table), x.symbols); !bytes.Equal(got, closed(x.stream)) {
			t.Errorf("Encode(%v, %v of %d) = % x, want % x", x.table, brief(x.symbols), len(x.symbols), got, closed(x.stream))
		}
	}
}

// All sequences of up to five symbols, on all small tables.
func TestEncodeOfShortSequences(t *testing.T) {
	for _, x := range small() {
		m := modelOf(t, x)
		for n := range 6 {
			sequences(used(x), n, func(symbols []int) { encode(t, m, symbols) })
		}
	}
}

// Even and odd numbers of symbols, on all tables: also the symbols that are drawn seldom.
func TestEncodeOfLongSequences(t *testing.T) {
	source := rand.New(rand.NewSource(21))
	for _, x := range valid() {
		m := modelOf(t, x)
		for _, n := range []int{0, 1, 2, 3, 4, 5, 64, 65, 400, 401} {
			encode(t, m, draw(source, x, n))
		}
		encode(t, m, used(x))
		encode(t, m, joined(used(x), used(x)[:1], used(x)))
	}
}

// A nil slice of symbols is an empty one, and has the flow of one byte.
func TestEncodeOfNoSymbols(t *testing.T) {
	for _, x := range valid() {
		for _, symbols := range [][]int{nil, {}} {
			if b := encode(t, modelOf(t, x), symbols); !bytes.Equal(b, []byte{1}) {
				t.Errorf("Encode({%d %v of %d}, none) = % x, want 01", x.Log, brief(x.Norm), len(x.Norm), b)
			}
		}
	}
}

func TestEncodeOfInvalidTables(t *testing.T) {
	for _, x := range invalid() {
		for _, symbols := range [][]int{nil, {0}, {0, 1, 0}} {
			wantEncodeError(t, x, symbols, api.ErrTable)
		}
	}
}

// An invalid table comes ahead of too many symbols, and of those without states.
func TestEncodeErrorsInOrder(t *testing.T) {
	wrong := filled(maxBlock+1, -1)
	for _, x := range []api.Table{{}, {Log: -1, Norm: []int{1}}, {Log: 10, Norm: []int{1024}}, {Log: 2, Norm: []int{3}}, {Log: 0, Norm: joined(filled(256, 0), []int{1})}} {
		wantEncodeError(t, x, wrong, api.ErrTable)
		wantEncodeError(t, x, wrong[:1], api.ErrTable)
	}
	for _, x := range chosen() {
		wantEncodeError(t, x, wrong, api.ErrArg)
	}
}

// Symbols without states, at every place and at several ones.
func TestEncodeOfSymbolsWithoutStates(t *testing.T) {
	source := rand.New(rand.NewSource(22))
	for _, x := range slices.Concat(chosen(), all(1, 4), all(2, 3)) {
		for _, wrong := range wrongSymbols(x) {
			for _, n := range []int{1, 2, 3, 4} {
				good := draw(source, x, n)
				for at := range good {
					symbols := joined(good[:at], []int{wrong}, good[at+1:])
					wantEncodeError(t, x, symbols, api.ErrArg)
				}
				wantEncodeError(t, x, filled(n, wrong), api.ErrArg)
			}
		}
	}
}

// Symbols that are rare have a flow like others.
func TestEncodeOfRareSymbols(t *testing.T) {
	for _, x := range chosen() {
		for symbol, n := range x.Norm {
			if n == -1 {
				m := modelOf(t, x)
				encode(t, m, []int{symbol})
				encode(t, m, filled(7, symbol))
			}
		}
	}
}

// MaxBlock symbols are not too many, one more is.
func TestTheMostSymbols(t *testing.T) {
	source := rand.New(rand.NewSource(23))
	for _, x := range []api.Table{{Log: 2, Norm: []int{3, 1}}, {Log: 9, Norm: []int{-1, 0, 511}}, {Log: 9, Norm: filled(256, 2)}, {Log: 0, Norm: []int{0, 1}}, {Log: 5, Norm: []int{32}}} {
		m := modelOf(t, x)
		symbols := draw(source, x, maxBlock+1)
		for _, n := range []int{maxBlock - 1, maxBlock} {
			wantSymbols(t, x, encode(t, m, symbols[:n]), symbols[:n])
		}
		wantEncodeError(t, x, symbols, api.ErrArg)
		wantEncodeError(t, x, joined(symbols, symbols), api.ErrArg)
		wantEncodeError(t, x, joined(symbols[1:maxBlock], []int{-1}), api.ErrArg)
		wantDecodeError(t, x, encode(t, m, symbols[:maxBlock]), maxBlock+1, api.ErrArg)
	}
}

// Neither the table nor the symbols nor what is behind them changes, and no result is another one's memory.
func TestEncodeKeepsItsArguments(t *testing.T) {
	source := rand.New(rand.NewSource(24))
	behind := []int{-77, -78, -79}
	for _, x := range chosen() {
		symbols := draw(source, x, 50)
		norms, list := joined(x.Norm, behind), joined(symbols, behind)
		own := model{api.Table{Log: x.Log, Norm: norms[:len(x.Norm)]}, modelOf(t, x).cells}
		first := encode(t, own, list[:len(symbols)])
		if !slices.Equal(norms, joined(x.Norm, behind)) || !slices.Equal(list, joined(symbols, behind)) {
			t.Fatalf("{%d %v of %d}, %v of %d: an argument changed", x.Log, brief(x.Norm), len(x.Norm), brief(symbols), len(symbols))
		}
		want := bytes.Clone(first)
		for i := range first[:cap(first)] {
			first[:cap(first)][i] ^= 0xff
		}
		if second := encode(t, own, list[:len(symbols)]); !bytes.Equal(second, want) {
			t.Fatalf("{%d %v of %d}: % x became % x", x.Log, brief(x.Norm), len(x.Norm), brief(want), brief(second))
		}
	}
}

// P12.2

// otherFlows returns flows that were written by hand, and whose symbols have others too.
func otherFlows() []sample {
	x := api.Table{Log: 2, Norm: []int{3, 1}} // Symbol, Bits, Base by states: 0 1 2, 0 0 0, 0 0 1, 1 2 0
	return []sample{
		{x, []int{0}, "00"}, {x, []int{0}, "10"}, {x, []int{0}, "01"}, {x, []int{0, 0}, "10 01"}, {x, []int{0, 0}, "01 10"}, {x, []int{1, 0}, "10 11"},
		{x, []int{0, 1, 0}, "11 10"}, {x, []int{0, 1, 0}, "11 01"}, {x, []int{0, 1, 0}, "0 11 00"}, {x, []int{0, 1, 1, 0}, "00 1 11 00"}, {x, []int{0, 1, 1, 0}, "10 1 11 00"}, {x, []int{0, 1, 1, 0}, "01 1 11 00"},
		{api.Table{Log: 2, Norm: []int{4}}, []int{0, 0, 0}, "01 11"}, {api.Table{Log: 2, Norm: []int{0, 4}}, filled(999, 1), "00 10"},
	}
}

func TestDecodeOfKnownFlows(t *testing.T) {
	for _, x := range slices.Concat(handmade(), otherFlows()) {
		wantSymbols(t, x.table, closed(x.stream), x.symbols)
	}
}

// All flows of all sequences of up to four symbols, whatever states the last two symbols have; Encode chooses one of them.
func TestDecodeOfAllFlows(t *testing.T) {
	for _, x := range slices.Concat(all(0, 3), all(1, 3), all(2, 3)) {
		m := modelOf(t, x)
		for n := range 5 {
			sequences(used(x), n, func(symbols []int) {
				list := m.flows(symbols)
				for _, stream := range list {
					wantSymbols(t, x, closed(stream), symbols)
				}
				if chosen, _ := opened(encode(t, m, symbols)); !slices.Contains(list, chosen) {
					t.Errorf("%v: Encode(%v) is the stream %q, want one of %q", x, symbols, chosen, list)
				}
			})
		}
	}
}

// All byte strings of one byte, on all small tables, with every number of symbols around those that they have.
func TestDecodeOfSingleBytes(t *testing.T) {
	for _, x := range slices.Concat(all(0, 2), all(1, 3), all(2, 3), all(3, 2)) {
		m := modelOf(t, x)
		for value := range 1 << 8 {
			for n := range 10 {
				wantAsModel(t, m, []byte{byte(value)}, n)
			}
		}
	}
}

// All byte strings of two bytes.
func TestDecodeOfTwoBytes(t *testing.T) {
	for _, x := range []api.Table{{Log: 1, Norm: []int{1, -1}}, {Log: 2, Norm: []int{3, 1}}, {Log: 3, Norm: []int{-1, 0, 5, 2}}} {
		m := modelOf(t, x)
		for both := range 1 << 16 {
			b := []byte{byte(both), byte(both >> 8)}
			for _, n := range []int{0, 1, 3, 5, 8} {
				wantAsModel(t, m, b, n)
			}
		}
	}
}

// No bytes, and a last byte that is 0: there is no end mark then, whatever there is ahead of it.
func TestDecodeOfUnclosedStreams(t *testing.T) {
	for _, x := range chosen() {
		for n := range 4 {
			whole := encode(t, modelOf(t, x), filled(n, used(x)[0]))
			for _, b := range [][]byte{nil, {}, {0}, {0, 0}, {1, 0}, {0x80, 0}, {0xff, 0xff, 0}, slices.Concat(whole, []byte{0}), slices.Concat(whole, make([]byte, 9))} {
				wantDecodeError(t, x, b, n, api.ErrBits)
			}
		}
	}
}

func TestDecodeOfInvalidTables(t *testing.T) {
	for _, x := range invalid() {
		for _, b := range [][]byte{{1}, {0x13}, {0xff, 0x7f}} {
			for n := range 3 {
				wantDecodeError(t, x, b, n, api.ErrTable)
			}
		}
	}
}

func TestDecodeOfWrongCounts(t *testing.T) {
	for _, x := range chosen() {
		b := encode(t, modelOf(t, x), used(x))
		for _, n := range wrongCounts() {
			wantDecodeError(t, x, b, n, api.ErrArg)
			wantDecodeError(t, x, []byte{1}, n, api.ErrArg)
		}
	}
}

// An invalid table comes ahead of a wrong number of symbols, and that one ahead of bytes that are no flow.
func TestDecodeErrorsInOrder(t *testing.T) {
	noFlows := [][]byte{nil, {0}, {0x80, 0}, {0xff, 0xff, 0xff}}
	for _, b := range noFlows {
		for _, n := range append(wrongCounts(), 0, 1, maxBlock) {
			for _, x := range []api.Table{{}, {Log: -1, Norm: []int{1}}, {Log: 10, Norm: []int{1024}}, {Log: 2, Norm: []int{3}}, {Log: 0, Norm: joined(filled(256, 0), []int{1})}} {
				wantDecodeError(t, x, b, n, api.ErrTable)
			}
		}
		for _, x := range chosen() {
			for _, n := range wrongCounts() {
				wantDecodeError(t, x, b, n, api.ErrArg)
			}
			wantDecodeError(t, x, b, 0, api.ErrBits)
		}
	}
}

// A flow that is cut at any bit of its beginning lacks bits, be it in a first state or in any step.
func TestDecodeOfTooFewBits(t *testing.T) {
	source := rand.New(rand.NewSource(25))
	for _, x := range chosen() {
		m := modelOf(t, x)
		for _, n := range []int{1, 2, 3, 4, 9, 20} {
			symbols := draw(source, x, n)
			stream, _ := opened(encode(t, m, symbols))
			for at := 1; at <= len(stream); at++ {
				wantDecodeError(t, x, closed(stream[at:]), n, api.ErrBits)
			}
		}
	}
}

// Bits that nothing reads, zeros or not, few or many.
func TestDecodeOfUnreadBits(t *testing.T) {
	source := rand.New(rand.NewSource(26))
	for _, x := range chosen() {
		m := modelOf(t, x)
		for _, n := range []int{0, 1, 2, 3, 4, 9, 20} {
			stream, _ := opened(encode(t, m, draw(source, x, n)))
			for _, more := range []string{"0", "1", "01", "10", "0000000", "00000000", "11111111", strings.Repeat("0", 64), strings.Repeat("01", 50)} {
				wantDecodeError(t, x, closed(more+stream), n, api.ErrBits)
			}
		}
	}
}

// The number of symbols must be the right one, unless the bits that it takes are the same.
func TestDecodeOfOtherCounts(t *testing.T) {
	source := rand.New(rand.NewSource(27))
	for _, x := range chosen() {
		m := modelOf(t, x)
		for _, n := range []int{0, 1, 2, 3, 30} {
			b := encode(t, m, draw(source, x, n))
			for other := range n + 4 {
				wantAsModel(t, m, b, other)
			}
			wantAsModel(t, m, b, maxBlock)
		}
	}
}

// Neither the table nor the bytes nor what is behind them changes, and no result is another one's memory.
func TestDecodeKeepsItsArguments(t *testing.T) {
	source := rand.New(rand.NewSource(28))
	for _, x := range chosen() {
		symbols := draw(source, x, 50)
		b := encode(t, modelOf(t, x), symbols)
		norms, room := joined(x.Norm, []int{-77, -78, -79}), slices.Concat(b, []byte{0x5a, 0xa5})
		own := api.Table{Log: x.Log, Norm: norms[:len(x.Norm)]}
		first, e := flow.Decode(own, room[:len(b)], len(symbols))
		if e != api.OK || !slices.Equal(first, symbols) {
			t.Fatalf("{%d %v of %d}: %v of %d, %d, want %v", x.Log, brief(x.Norm), len(x.Norm), brief(first), len(first), e, brief(symbols))
		}
		for i := range first[:cap(first)] {
			first[:cap(first)][i] = 1 << 20
		}
		if !slices.Equal(norms, joined(x.Norm, []int{-77, -78, -79})) || !bytes.Equal(room, slices.Concat(b, []byte{0x5a, 0xa5})) {
			t.Fatalf("{%d %v of %d}, % x of %d: an argument changed", x.Log, brief(x.Norm), len(x.Norm), brief(b), len(b))
		}
		wantSymbols(t, own, room[:len(b)], symbols)
	}
}

// P12.3

// Decode of Encode, with sequences of all kinds and lengths.
func TestSymbolsComeBack(t *testing.T) {
	source := rand.New(rand.NewSource(29))
	for _, x := range valid() {
		m := modelOf(t, x)
		for _, n := range []int{0, 1, 2, 3, 4, 5, 16, 17, 1000, 1001} {
			symbols := draw(source, x, n)
			wantSymbols(t, x, encode(t, m, symbols), symbols)
		}
		for _, symbol := range used(x)[:min(4, len(used(x)))] {
			symbols := filled(33, symbol)
			wantSymbols(t, x, encode(t, m, symbols), symbols)
		}
	}
}

// All sequences of up to five symbols, on all small tables.
func TestShortSequencesComeBack(t *testing.T) {
	for _, x := range small() {
		m := modelOf(t, x)
		for n := range 6 {
			sequences(used(x), n, func(symbols []int) { wantSymbols(t, x, encode(t, m, symbols), symbols) })
		}
	}
}

// There are at most Log bits per symbol, and just so many if the symbols have one state each.
func TestTheGreatestLength(t *testing.T) {
	source := rand.New(rand.NewSource(30))
	for _, x := range valid() {
		m := modelOf(t, x)
		for _, n := range []int{0, 1, 2, 3, 10, 101} {
			if stream, _ := opened(encode(t, m, draw(source, x, n))); len(stream) > n*x.Log {
				t.Errorf("{%d %v of %d}: %d symbols have %d bits", x.Log, brief(x.Norm), len(x.Norm), n, len(stream))
			}
			for symbol, norm := range x.Norm {
				if number(norm) != 1 {
					continue
				}
				if stream, _ := opened(encode(t, m, filled(n, symbol))); len(stream) != n*x.Log {
					t.Errorf("{%d %v of %d}: %d symbols %d have %d bits, want %d", x.Log, brief(x.Norm), len(x.Norm), n, symbol, len(stream), n*x.Log)
				}
				break
			}
		}
	}
	x := api.Table{Log: 9, Norm: []int{511, -1}}
	if b := encode(t, modelOf(t, x), filled(maxBlock, 1)); len(b) != maxBlock*9/8+1 || b[len(b)-1] != 1 {
		t.Errorf("the longest flow has %d bytes, want %d", len(b), maxBlock*9/8+1)
	}
}

// A table with Log 0 has one flow for any number of symbols.
func TestTheFlowOfLogZero(t *testing.T) {
	for _, x := range append(all(0, 4), api.Table{Log: 0, Norm: joined(filled(255, 0), []int{1})}, api.Table{Log: 0, Norm: joined(filled(255, 0), []int{-1})}) {
		m, symbol := modelOf(t, x), len(x.Norm)-1
		for _, n := range []int{0, 1, 2, 3, 4, 1000, maxBlock - 1, maxBlock} {
			if b := encode(t, m, filled(n, symbol)); !bytes.Equal(b, []byte{1}) {
				t.Errorf("%d symbols %d: % x, want 01", n, symbol, b)
			}
			wantSymbols(t, x, []byte{1}, filled(n, symbol))
			for _, b := range [][]byte{{2}, {3}, {0x80}, {0, 1}, {1, 1}, {0}, nil} {
				wantDecodeError(t, x, b, n, api.ErrBits)
			}
		}
	}
}

// A table with one symbol and a greater Log has the bits of the first states alone.
func TestTheFlowOfOneSymbol(t *testing.T) {
	for _, x := range single() {
		m, symbol := modelOf(t, x), len(x.Norm)-1
		for _, n := range []int{0, 1, 2, 3, 4, 1000} {
			stream, _ := opened(encode(t, m, filled(n, symbol)))
			if len(stream) != min(n, 2)*x.Log {
				t.Errorf("Log %d: %d symbols %d have %d bits, want %d", x.Log, n, symbol, len(stream), min(n, 2)*x.Log)
			}
			wantSymbols(t, x, closed(stream), filled(n, symbol))
		}
	}
}

// A bit more, or a bit less, at the beginning of any flow.
func TestFlowsOfAnotherLength(t *testing.T) {
	for _, x := range slices.Concat(all(0, 2), all(1, 3), all(2, 3)) {
		m := modelOf(t, x)
		for n := range 5 {
			sequences(used(x), n, func(symbols []int) {
				for _, stream := range m.flows(symbols) {
					wantDecodeError(t, x, closed("0"+stream), n, api.ErrBits)
					wantDecodeError(t, x, closed("1"+stream), n, api.ErrBits)
					if stream != "" {
						wantDecodeError(t, x, closed(stream[1:]), n, api.ErrBits)
					}
				}
			})
		}
	}
}

// Any bytes, with any number of symbols: those that are no flow are rejected, and of the others there are some.
func TestDecodeOfAnyBytes(t *testing.T) {
	source := rand.New(rand.NewSource(31))
	flows := 0
	for _, x := range slices.Concat(chosen(), all(2, 3)) {
		m := modelOf(t, x)
		for range 20 {
			b := make([]byte, source.Intn(12))
			for i := range b {
				b[i] = byte(source.Intn(256))
			}
			for n := range 40 {
				if wantAsModel(t, m, b, n) == api.OK && n > 2 {
					flows++
				}
			}
			wantAsModel(t, m, b, source.Intn(maxBlock+1))
		}
	}
	if flows < 100 {
		t.Errorf("%d of the bytes were flows, which are too few to tell", flows)
	}
}

// No argument makes a call panic, and what is decoded are always n symbols that have states.
func TestAnyArguments(t *testing.T) {
	counts := append(wrongCounts(), 0, 1, 2, 3, maxBlock-1, maxBlock)
	for _, x := range slices.Concat(chosen(), invalid(), []api.Table{{Log: math.MinInt, Norm: []int{math.MinInt}}, {Log: math.MaxInt, Norm: filled(1000, math.MaxInt)}}) {
		for _, b := range [][]byte{nil, {0}, {1}, {0x13}, {0xff}, {0, 0x80}, bytes.Repeat([]byte{0xff}, 300)} {
			for _, n := range counts {
				symbols, e := flow.Decode(x, b, n)
				if e != api.OK && len(symbols) != 0 || e == api.OK && len(symbols) != n {
					t.Errorf("Decode({%d %v of %d}, % x, %d) = %v of %d, %d", x.Log, brief(x.Norm), len(x.Norm), brief(b), n, brief(symbols), len(symbols), e)
				}
				for _, symbol := range symbols {
					if symbol < 0 || symbol >= len(x.Norm) || x.Norm[symbol] == 0 {
						t.Fatalf("Decode({%d %v of %d}, % x, %d) has the symbol %d", x.Log, brief(x.Norm), len(x.Norm), brief(b), n, symbol)
					}
				}
			}
		}
		for _, symbols := range [][]int{nil, {math.MinInt}, {math.MaxInt, 0}, {-1, 0, 256}} {
			if b, e := flow.Encode(x, symbols); e == api.OK && len(b) == 0 || e != api.OK && len(b) != 0 {
				t.Errorf("Encode({%d %v of %d}, %v) = % x, %d", x.Log, brief(x.Norm), len(x.Norm), symbols, brief(b), e)
			}
		}
	}
}
