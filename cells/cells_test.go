package cells_test

import (
	"math"
	"math/bits"
	"math/rand"
	"slices"
	"testing"

	"portmanteau/api"
	"portmanteau/cells"
	"portmanteau/norm"
	"portmanteau/spread"
)

// The document's numbers, written out once more, so that a wrong one in the package shows.
const (
	maxLog     = 9
	maxSymbols = 256
)

// filled returns n norms that are all the same.
func filled(n, value int) []int { return slices.Repeat([]int{value}, n) }

// joined returns the concatenation of lists, in new memory.
func joined(lists ...[]int) []int { return slices.Concat(lists...) }

// brief shows a list in a message.
func brief[T any](list []T) []T { return list[:min(len(list), 16)] }

// states is the number of states of a norm.
func states(n int) int { return max(n, -n) }

// chosen returns valid tables of the kinds that the chapter names.
func chosen() []api.Table {
	tables := []api.Table{
		{Log: 2, Norm: []int{3, 1}}, {Log: 2, Norm: []int{2, -1, 1}}, {Log: 4, Norm: []int{8, 8}},
		{Log: 1, Norm: []int{1, 1}}, {Log: 1, Norm: []int{1, -1}}, {Log: 1, Norm: []int{-1, 1}}, {Log: 1, Norm: []int{-1, -1}},
		{Log: 3, Norm: []int{-1, 3, -1, 3}}, {Log: 3, Norm: []int{5, 0, 0, 3}}, {Log: 3, Norm: []int{0, 0, 7, -1}}, {Log: 3, Norm: []int{0, -1, 0, -1, 0, 6}},
		{Log: 4, Norm: []int{-1, 15}}, {Log: 4, Norm: []int{15, -1}}, {Log: 4, Norm: []int{15, 1}}, {Log: 4, Norm: []int{1, 15}}, {Log: 4, Norm: []int{5, -1, 4, -1, 4, -1}},
		{Log: 9, Norm: joined(filled(255, 1), []int{257})}, {Log: 9, Norm: joined(filled(255, -1), []int{257})}, {Log: 9, Norm: joined([]int{257}, filled(255, -1))},
		{Log: 9, Norm: filled(256, 2)}, {Log: 8, Norm: filled(256, 1)}, {Log: 8, Norm: filled(256, -1)}, {Log: 9, Norm: []int{511, -1}}, {Log: 9, Norm: []int{-1, 511}},
		{Log: 9, Norm: joined(filled(255, 0), []int{512})}, {Log: 0, Norm: joined(filled(255, 0), []int{-1})}, {Log: 5, Norm: joined(filled(254, 0), []int{-1, 31})},
		{Log: 6, Norm: []int{-1, 20, -1, 20, 0, 20, -1, 0, -1}}, {Log: 7, Norm: []int{100, 0, 0, 20, -1, -1, 6}}, {Log: 8, Norm: joined([]int{250}, filled(6, -1))},
	}
	for log := range maxLog + 1 {
		tables = append(tables, api.Table{Log: log, Norm: []int{1 << log}}, api.Table{Log: log, Norm: []int{0, 1 << log}})
		if log < maxLog {
			tables = append(tables, api.Table{Log: log, Norm: filled(1<<log, 1)}, api.Table{Log: log, Norm: filled(1<<log, -1)})
		}
		if log > 1 {
			tables = append(tables, api.Table{Log: log, Norm: []int{1, 1<<log - 2, -1}}, api.Table{Log: log, Norm: []int{-1, 1<<log - 2, -1}})
		}
	}
	return tables
}

// random returns a valid table: the states go to symbols one after the other, in portions of any size, with zeros between them.
func random(source *rand.Rand) api.Table {
	log := source.Intn(maxLog + 1)
	left, portion, rare, zeros := 1<<log, 1+source.Intn(1<<source.Intn(log+1)), source.Intn(4), source.Intn(5)
	norms := []int{}
	for left > 0 {
		n := min(left, 1+source.Intn(portion))
		if len(norms) == maxSymbols-1 {
			n = left
		} else if source.Intn(5) < zeros {
			norms = append(norms, 0)
			continue
		} else if n == 1 && source.Intn(3) < rare {
			n = -1
		}
		norms = append(norms, n)
		left -= states(n)
	}
	return api.Table{Log: log, Norm: norms}
}

// small returns all valid tables of a Log of at most 3 and of at most so many symbols.
func small(symbols int) []api.Table {
	var tables []api.Table
	var extend func(log, left int, norms []int)
	extend = func(log, left int, norms []int) {
		if left == 0 && norms[len(norms)-1] != 0 {
			tables = append(tables, api.Table{Log: log, Norm: slices.Clone(norms)})
		}
		if left == 0 || len(norms) == symbols {
			return
		}
		for n := -1; n <= left; n++ {
			extend(log, left-states(n), append(norms, n))
		}
	}
	for log := range 4 {
		extend(log, 1<<log, nil)
	}
	return tables
}

// valid returns valid tables of many kinds.
func valid() []api.Table {
	tables, source := append(chosen(), small(4)...), rand.New(rand.NewSource(8))
	for range 250 {
		tables = append(tables, random(source))
	}
	return tables
}

// invalid returns tables that are not valid.
func invalid() []api.Table {
	tables := []api.Table{
		{}, {Log: 0, Norm: []int{}}, {Log: 3}, {Log: 9, Norm: []int{1}[:0]}, {Log: -1},
		{Log: -1, Norm: []int{1}}, {Log: -1, Norm: []int{-1}}, {Log: 10, Norm: []int{1024}}, {Log: 10, Norm: []int{512}}, {Log: 10, Norm: filled(256, 4)}, {Log: 62, Norm: []int{1 << 62}},
		{Log: 64, Norm: []int{1}}, {Log: math.MaxInt, Norm: []int{1}}, {Log: math.MinInt, Norm: []int{1}}, {Log: math.MaxInt, Norm: []int{math.MaxInt}},
		{Log: 9, Norm: joined(filled(256, 1), []int{256})}, {Log: 9, Norm: joined(filled(256, -1), []int{256})}, {Log: 8, Norm: joined([]int{256}, filled(256, 0))},
		{Log: 0, Norm: joined(filled(256, 0), []int{1})}, {Log: 9, Norm: filled(512, 1)}, {Log: 9, Norm: filled(512, -1)},
		{Log: 2, Norm: []int{6, -2}}, {Log: 2, Norm: []int{2, -2}}, {Log: 1, Norm: []int{-2}}, {Log: 2, Norm: []int{-4}}, {Log: 2, Norm: []int{math.MinInt, 4}}, {Log: 3, Norm: []int{math.MinInt, math.MaxInt, 9}},
		{Log: 0, Norm: []int{0}}, {Log: 0, Norm: []int{1, 0}}, {Log: 2, Norm: []int{3, 1, 0}}, {Log: 4, Norm: []int{16, 0, 0}}, {Log: 1, Norm: []int{0, -1, -1, 0}},
		{Log: 2, Norm: []int{math.MaxInt, math.MaxInt, 6}}, {Log: 2, Norm: []int{1 << 62, 1 << 62, 1 << 62, 1 << 62, 4}},
	}
	for log := range maxLog + 1 {
		size := 1 << log
		tables = append(tables, api.Table{Log: log, Norm: []int{size + 1}}, api.Table{Log: log, Norm: []int{size, 1}}, api.Table{Log: log, Norm: []int{size, -1}})
		tables = append(tables, api.Table{Log: log, Norm: []int{-1, size}}, api.Table{Log: log, Norm: []int{2 * size}}, api.Table{Log: log, Norm: []int{size, 0}})
		if log > 0 {
			tables = append(tables, api.Table{Log: log, Norm: []int{size - 1}}, api.Table{Log: log, Norm: []int{size / 2}}, api.Table{Log: log, Norm: []int{size/2 - 1, -1}})
		}
	}
	return tables
}

// outside is symbols that no table has.
func outside() []int {
	return []int{math.MinInt, math.MinInt + 1, math.MinInt32, -257, -2, -1, 256, 257, 512, math.MaxInt32, math.MaxInt - 1, math.MaxInt}
}

// symbolsOf is the symbol of each index of a valid table.
func symbolsOf(t *testing.T, x api.Table) []int {
	t.Helper()
	symbols, e := spread.Spread(x)
	if e != api.OK {
		t.Fatalf("Spread({%d %v of %d}): %d", x.Log, brief(x.Norm), len(x.Norm), e)
	}
	return symbols
}

// floorOf is the logarithm of a positive number, rounded down, by doubling.
func floorOf(x int) int {
	log := 0
	for 2<<log <= x {
		log++
	}
	return log
}

// ceilOf is the logarithm of a positive number, rounded up, by doubling.
func ceilOf(x int) int {
	log := 0
	for 1<<log < x {
		log++
	}
	return log
}

// cellsOf is the chapter's definition for a valid table: the place of an index among its symbol's is counted anew for each.
func cellsOf(t *testing.T, x api.Table) []api.Cell {
	t.Helper()
	symbols, size := symbolsOf(t, x), 1<<x.Log
	list := make([]api.Cell, size)
	for index, symbol := range symbols {
		number := states(x.Norm[symbol])
		for _, s := range symbols[:index] {
			if s == symbol {
				number++
			}
		}
		width := x.Log - floorOf(number)
		list[index] = api.Cell{Symbol: symbol, Bits: width, Base: number*(1<<width) - size}
	}
	return list
}

// triples are cells as the chapter's examples show them: Symbol, Bits, Base.
func triples(list []api.Cell) [][3]int {
	var rows [][3]int
	for _, c := range list {
		rows = append(rows, [3]int{c.Symbol, c.Bits, c.Base})
	}
	return rows
}

// built is Build of a valid table.
func built(t *testing.T, x api.Table) []api.Cell {
	t.Helper()
	got, e := cells.Build(x)
	if e != api.OK {
		t.Fatalf("Build({%d %v of %d}): %d", x.Log, brief(x.Norm), len(x.Norm), e)
	}
	return got
}

// spansOf is Spans of a valid table.
func spansOf(t *testing.T, x api.Table, symbol int) [][2]int {
	t.Helper()
	got, e := cells.Spans(x, symbol)
	if e != api.OK {
		t.Fatalf("Spans({%d %v of %d}, %d): %d", x.Log, brief(x.Norm), len(x.Norm), symbol, e)
	}
	return got
}

// The tables of these tests are what they are said to be.
func TestTheTables(t *testing.T) {
	for _, x := range valid() {
		if norm.Check(x, maxSymbols, maxLog) != api.OK {
			t.Errorf("{%d %v of %d} is not valid", x.Log, brief(x.Norm), len(x.Norm))
		}
	}
	for _, x := range invalid() {
		if norm.Check(x, maxSymbols, maxLog) != api.ErrTable {
			t.Errorf("{%d %v of %d} is valid", x.Log, brief(x.Norm), len(x.Norm))
		}
	}
}

// The table of examples

func TestExamples(t *testing.T) {
	for _, x := range []struct {
		log   int
		norms []int
		want  [][3]int
	}{
		{2, []int{3, 1}, [][3]int{{0, 1, 2}, {0, 0, 0}, {0, 0, 1}, {1, 2, 0}}},
		{0, []int{0, 1}, [][3]int{{1, 0, 0}}},
	} {
		got, e := cells.Build(api.Table{Log: x.log, Norm: x.norms})
		if e != api.OK || !slices.Equal(triples(got), x.want) {
			t.Errorf("Build({%d %v}) = %v, %d, want %v", x.log, x.norms, got, e, x.want)
		}
	}
}

// P9.1

func TestBuildOfKnownTables(t *testing.T) {
	for _, x := range []struct {
		why   string
		log   int
		norms []int
		want  [][3]int
	}{
		{"the only state", 0, []int{1}, [][3]int{{0, 0, 0}}},
		{"the only state, a rare symbol's", 0, []int{-1}, [][3]int{{0, 0, 0}}},
		{"the only state, behind zeros", 0, []int{0, 0, -1}, [][3]int{{2, 0, 0}}},
		{"two symbols of one state", 1, []int{1, 1}, [][3]int{{0, 1, 0}, {1, 1, 0}}},
		{"only rare symbols", 2, []int{-1, -1, -1, -1}, [][3]int{{3, 2, 0}, {2, 2, 0}, {1, 2, 0}, {0, 2, 0}}},
		{"a rare symbol between others", 2, []int{2, -1, 1}, [][3]int{{0, 1, 0}, {0, 1, 2}, {2, 2, 0}, {1, 2, 0}}},
		{"a symbol with all states", 2, []int{4}, [][3]int{{0, 0, 0}, {0, 0, 1}, {0, 0, 2}, {0, 0, 3}}},
		{"numbers of states that are no powers of two", 3, []int{5, 3}, [][3]int{{0, 1, 2}, {0, 1, 4}, {0, 1, 6}, {0, 0, 0}, {0, 0, 1}, {1, 2, 4}, {1, 1, 0}, {1, 1, 2}}},
		{"a zero between others", 3, []int{6, 0, 2}, [][3]int{{0, 1, 4}, {0, 1, 6}, {0, 0, 0}, {0, 0, 1}, {0, 0, 2}, {0, 0, 3}, {2, 2, 0}, {2, 2, 4}}},
		{"numbers of states that are powers of two, scattered", 4, []int{8, 8}, [][3]int{
			{0, 1, 0}, {0, 1, 2}, {1, 1, 0}, {1, 1, 2}, {0, 1, 4}, {1, 1, 4}, {1, 1, 6}, {0, 1, 6},
			{1, 1, 8}, {1, 1, 10}, {0, 1, 8}, {0, 1, 10}, {1, 1, 12}, {0, 1, 12}, {0, 1, 14}, {1, 1, 14}}},
		{"two rare symbols, and states between another symbol's", 4, []int{2, -1, 12, -1}, [][3]int{
			{0, 3, 0}, {2, 1, 8}, {2, 1, 10}, {2, 1, 12}, {2, 1, 14}, {2, 0, 0}, {2, 0, 1}, {2, 0, 2},
			{2, 0, 3}, {2, 0, 4}, {2, 0, 5}, {2, 0, 6}, {2, 0, 7}, {0, 3, 8}, {3, 4, 0}, {1, 4, 0}}},
	} {
		got, e := cells.Build(api.Table{Log: x.log, Norm: x.norms})
		if e != api.OK || !slices.Equal(triples(got), x.want) {
			t.Errorf("%s: Build({%d %v}) = %v, %d, want %v", x.why, x.log, x.norms, got, e, x.want)
		}
	}
}

func TestBuildAgainstTheDefinition(t *testing.T) {
	for _, x := range valid() {
		if got, want := built(t, x), cellsOf(t, x); !slices.Equal(got, want) {
			t.Errorf("Build({%d %v of %d}) = %v, want %v", x.Log, brief(x.Norm), len(x.Norm), brief(got), brief(want))
		}
	}
}

// A symbol with all states needs no bits, and each of its states leads to itself.
func TestBuildOfASymbolWithAllStates(t *testing.T) {
	for log := range maxLog + 1 {
		for _, symbol := range []int{0, 1, 77, 255} {
			got := built(t, api.Table{Log: log, Norm: joined(filled(symbol, 0), []int{1 << log})})
			if len(got) != 1<<log {
				t.Fatalf("symbol %d, with all states of the Log %d: %d cells", symbol, log, len(got))
			}
			for state, c := range got {
				if want := (api.Cell{Symbol: symbol, Bits: 0, Base: state}); c != want {
					t.Errorf("symbol %d, with all states of the Log %d: cell %d is %v, want %v", symbol, log, state, c, want)
				}
			}
		}
	}
}

// A rare symbol's cell is that of another symbol with one state.
func TestBuildOfRareSymbols(t *testing.T) {
	for _, x := range valid() {
		for state, c := range built(t, x) {
			if n := x.Norm[c.Symbol]; states(n) == 1 && (c.Bits != x.Log || c.Base != 0) {
				t.Errorf("{%d %v of %d}: cell %d, of the norm %d, is %v", x.Log, brief(x.Norm), len(x.Norm), state, n, c)
			}
		}
	}
}

func TestBuildOfInvalidTables(t *testing.T) {
	for _, x := range invalid() {
		if got, e := cells.Build(x); e != api.ErrTable || len(got) != 0 {
			t.Errorf("Build({%d %v of %d}) = %v, %d, want ErrTable", x.Log, brief(x.Norm), len(x.Norm), brief(got), e)
		}
	}
}

// A table of 256 norms is the longest; the greatest Log is 9.
func TestTheLimits(t *testing.T) {
	for log := range 12 {
		for _, length := range []int{1, 2, 255, 256, 257, 258, 1000} {
			want := api.OK
			if log > 9 || length > 256 {
				want = api.ErrTable
			}
			x := api.Table{Log: log, Norm: joined(filled(length-1, 0), []int{1 << log})}
			if _, e := cells.Build(x); e != want {
				t.Errorf("Build of the Log %d and %d norms: %d, want %d", log, length, e, want)
			}
			if _, e := cells.Spans(x, 0); e != want {
				t.Errorf("Spans of the Log %d and %d norms: %d, want %d", log, length, e, want)
			}
		}
	}
}

// The norms stay as they are, and so does what is behind them; the lists are the caller's own.
func TestNothingIsShared(t *testing.T) {
	for _, x := range chosen() {
		behind := []int{-77, -78, -79}
		room := joined(x.Norm, behind)
		own := api.Table{Log: x.Log, Norm: room[:len(x.Norm)]}
		last := len(x.Norm) - 1
		list, spans := built(t, own), spansOf(t, own, last)
		for i := range list {
			list[i] = api.Cell{Symbol: -500, Bits: -501, Base: -502}
		}
		for i := range spans {
			spans[i] = [2]int{-503, -504}
		}
		_, _ = append(list, api.Cell{}), append(spans, [2]int{})
		if !slices.Equal(room, joined(x.Norm, behind)) {
			t.Fatalf("the norms %v changed", brief(x.Norm))
		}
		list, spans = built(t, own), spansOf(t, own, last)
		clear(room)
		if !slices.Equal(list, cellsOf(t, x)) || !slices.Equal(spans, spansOf(t, x, last)) {
			t.Fatalf("the answers about %v changed: %v, %v", brief(x.Norm), brief(list), brief(spans))
		}
	}
}

// The same table has the same cells in every call.
func TestCellsAreRepeatable(t *testing.T) {
	for _, x := range chosen() {
		first := built(t, x)
		for range 5 {
			if again := built(t, x); !slices.Equal(again, first) {
				t.Fatalf("Build({%d %v of %d}) = %v, and then %v", x.Log, brief(x.Norm), len(x.Norm), brief(first), brief(again))
			}
		}
	}
}

// P9.2

func TestSingleSymbol(t *testing.T) {
	for symbol := range maxSymbols {
		x, e := cells.SingleSymbol(symbol)
		if e != api.OK || x.Log != 0 || !slices.Equal(x.Norm, joined(filled(symbol, 0), []int{1})) {
			t.Fatalf("SingleSymbol(%d) = %v, %d", symbol, x, e)
		}
		if norm.Check(x, symbol+1, 0) != api.OK {
			t.Errorf("SingleSymbol(%d) = %v is not valid", symbol, x)
		}
		if got := built(t, x); !slices.Equal(got, []api.Cell{{Symbol: symbol, Bits: 0, Base: 0}}) {
			t.Errorf("the cells of SingleSymbol(%d) are %v", symbol, got)
		}
		if got := spansOf(t, x, symbol); !slices.Equal(got, [][2]int{{0, 1}}) {
			t.Errorf("the spans of SingleSymbol(%d) are %v", symbol, got)
		}
	}
}

func TestSingleSymbolOfNoSymbol(t *testing.T) {
	for _, symbol := range outside() {
		if x, e := cells.SingleSymbol(symbol); e != api.ErrArg || x.Log != 0 || len(x.Norm) != 0 {
			t.Errorf("SingleSymbol(%d) = %v, %d, want ErrArg", symbol, x, e)
		}
	}
}

// Two tables of one symbol are different memory.
func TestSingleSymbolsAreNew(t *testing.T) {
	for _, symbol := range []int{0, 3, 255} {
		first, _ := cells.SingleSymbol(symbol)
		for i := range first.Norm {
			first.Norm[i] = -99
		}
		if again, e := cells.SingleSymbol(symbol); e != api.OK || !slices.Equal(again.Norm, joined(filled(symbol, 0), []int{1})) {
			t.Errorf("the second SingleSymbol(%d) = %v, %d", symbol, again, e)
		}
	}
}

// P9.3

func TestNext(t *testing.T) {
	const all, low62 = math.MaxUint64, 1<<62 - 1
	for _, x := range []struct {
		why        string
		width      int
		base       int
		bits       uint64
		want       int
		wantOfNone int // with no bits set
	}{
		{"no bits", 0, 5, all, 5, 5},
		{"one bit", 1, 6, 1, 7, 6},
		{"one bit, others above it", 1, 6, all - 1, 6, 6},
		{"two bits", 2, 4, 3, 7, 4},
		{"two bits, others above them", 2, 4, 6, 6, 4},
		{"nine bits", 9, 0, 511, 511, 0},
		{"nine bits, others above them", 9, 0, 1 << 9, 0, 0},
		{"31 bits", 31, 0, all, math.MaxInt32, 0},
		{"32 bits", 32, 1, all, 1 << 32, 1},
		{"61 bits", 61, 0, all, 1<<61 - 1, 0},
		{"62 bits", 62, 0, all, low62, 0},
		{"62 bits, only those above them", 62, 3, 3 << 62, 3, 3},
		{"63 bits", 63, 0, all, low62, 0},
		{"63 bits, the highest", 63, 3, 1 << 62, 3, 3},
		{"64 bits", 64, 0, all, low62, 0},
		{"65 bits", 65, 0, all, low62, 0},
		{"most bits", math.MaxInt, 1, all, 1 << 62, 1},
		{"bits below 0", -1, 5, all, 5, 5},
		{"bits far below 0", -64, 5, all, 5, 5},
		{"least bits", math.MinInt, 5, all, 5, 5},
		{"a base below 0", 3, -8, 15, -1, -8},
		{"the least base", 0, math.MinInt, all, math.MinInt, math.MinInt},
		{"the least base, and bits", 62, math.MinInt, all, math.MinInt + low62, math.MinInt},
		{"the greatest base", 0, math.MaxInt, all, math.MaxInt, math.MaxInt},
		{"the greatest base, and bits that are 0", 2, math.MaxInt, 4, math.MaxInt, math.MaxInt},
		{"the greatest base, and a bit: it wraps round", 1, math.MaxInt, 1, math.MinInt, math.MaxInt},
		{"the greatest base, and 62 bits: it wraps round", 62, math.MaxInt, all, math.MinInt + low62 - 1, math.MaxInt},
	} {
		for _, symbol := range []int{0, 7, -1} {
			c := api.Cell{Symbol: symbol, Bits: x.width, Base: x.base}
			if got := cells.Next(c, x.bits); got != x.want {
				t.Errorf("%s: Next(%v, %d) = %d, want %d", x.why, c, x.bits, got, x.want)
			}
			if got := cells.Next(c, 0); got != x.wantOfNone {
				t.Errorf("%s: Next(%v, 0) = %d, want %d", x.why, c, got, x.wantOfNone)
			}
		}
	}
}

// Every width, with bits at random: the sum of those that count, one by one.
func TestNextAgainstTheDefinition(t *testing.T) {
	source := rand.New(rand.NewSource(9))
	for width := -5; width <= 70; width++ {
		for range 20 {
			value, base := source.Uint64(), source.Intn(1<<20)-1<<19
			want := base
			for i := range max(min(width, 62), 0) {
				if value>>i&1 == 1 {
					want += 1 << i
				}
			}
			if got := cells.Next(api.Cell{Bits: width, Base: base}, value); got != want {
				t.Errorf("Next({0 %d %d}, %x) = %d, want %d", width, base, value, got, want)
			}
		}
	}
}

func TestSpansOfKnownTables(t *testing.T) {
	for _, x := range []struct {
		log    int
		norms  []int
		symbol int
		want   [][2]int
	}{
		{0, []int{1}, 0, [][2]int{{0, 1}}}, {0, []int{0, -1}, 1, [][2]int{{0, 1}}}, {0, []int{0, -1}, 0, nil},
		{2, []int{3, 1}, 0, [][2]int{{2, 2}, {0, 1}, {1, 1}}}, {2, []int{3, 1}, 1, [][2]int{{0, 4}}}, {2, []int{3, 1}, 2, nil}, {2, []int{3, 1}, -1, nil},
		{3, []int{5, 3}, 0, [][2]int{{2, 2}, {4, 2}, {6, 2}, {0, 1}, {1, 1}}}, {3, []int{5, 3}, 1, [][2]int{{4, 4}, {0, 2}, {2, 2}}},
		{3, []int{5, 0, 3}, 1, nil}, {3, []int{5, 0, 3}, 2, [][2]int{{4, 4}, {0, 2}, {2, 2}}},
		{4, []int{8, 8}, 1, [][2]int{{0, 2}, {2, 2}, {4, 2}, {6, 2}, {8, 2}, {10, 2}, {12, 2}, {14, 2}}},
		{4, []int{2, -1, 12, -1}, 0, [][2]int{{0, 8}, {8, 8}}}, {4, []int{2, -1, 12, -1}, 1, [][2]int{{0, 16}}}, {4, []int{2, -1, 12, -1}, 3, [][2]int{{0, 16}}},
		{9, []int{3, 509}, 0, [][2]int{{256, 256}, {0, 128}, {128, 128}}}, {9, []int{511, -1}, 1, [][2]int{{0, 512}}},
	} {
		got, e := cells.Spans(api.Table{Log: x.log, Norm: x.norms}, x.symbol)
		if e != api.OK || !slices.Equal(got, x.want) {
			t.Errorf("Spans({%d %v}, %d) = %v, %d, want %v", x.log, x.norms, x.symbol, got, e, x.want)
		}
	}
}

// The spans are those of the symbol's cells, in the order of the states.
func TestSpansAgainstTheDefinition(t *testing.T) {
	for _, x := range valid() {
		want := map[int][][2]int{}
		for _, c := range cellsOf(t, x) {
			want[c.Symbol] = append(want[c.Symbol], [2]int{c.Base, 1 << c.Bits})
		}
		for symbol := -1; symbol <= len(x.Norm); symbol++ {
			if got := spansOf(t, x, symbol); !slices.Equal(got, want[symbol]) {
				t.Errorf("Spans({%d %v of %d}, %d) = %v, want %v", x.Log, brief(x.Norm), len(x.Norm), symbol, brief(got), brief(want[symbol]))
			}
		}
	}
}

// A span is all that Next can answer.
func TestSpansAreTheNextStates(t *testing.T) {
	for _, x := range chosen() {
		places := map[int]int{}
		all := map[int][][2]int{}
		for state, c := range built(t, x) {
			if _, is := all[c.Symbol]; !is {
				all[c.Symbol] = spansOf(t, x, c.Symbol)
			}
			span := all[c.Symbol][places[c.Symbol]]
			places[c.Symbol]++
			if span[1] != 1<<c.Bits {
				t.Fatalf("{%d %v of %d}: the span of state %d is %v", x.Log, brief(x.Norm), len(x.Norm), state, span)
			}
			for value := range span[1] {
				if got := cells.Next(c, uint64(value)); got != span[0]+value {
					t.Fatalf("{%d %v of %d}: state %d by %d leads to %d, want %d", x.Log, brief(x.Norm), len(x.Norm), state, value, got, span[0]+value)
				}
			}
		}
	}
}

func TestSpansOfNoSymbol(t *testing.T) {
	for _, x := range chosen() {
		for _, symbol := range append(outside(), len(x.Norm), len(x.Norm)+1) {
			if got := spansOf(t, x, symbol); len(got) != 0 {
				t.Errorf("Spans({%d %v of %d}, %d) = %v, want none", x.Log, brief(x.Norm), len(x.Norm), symbol, got)
			}
		}
		for symbol, n := range x.Norm {
			if got := spansOf(t, x, symbol); len(got) != states(n) {
				t.Errorf("Spans({%d %v of %d}, %d) = %v, want %d of them", x.Log, brief(x.Norm), len(x.Norm), symbol, brief(got), states(n))
			}
		}
	}
}

// An invalid table is an error whatever the symbol.
func TestSpansOfInvalidTables(t *testing.T) {
	for _, x := range invalid() {
		for _, symbol := range append(outside(), 0, 1, 2, 255) {
			if got, e := cells.Spans(x, symbol); e != api.ErrTable || len(got) != 0 {
				t.Errorf("Spans({%d %v of %d}, %d) = %v, %d, want ErrTable", x.Log, brief(x.Norm), len(x.Norm), symbol, brief(got), e)
			}
		}
	}
}

// P9.4

// The spans of a symbol meet every state, and none twice.
func TestSpansPartitionTheStates(t *testing.T) {
	for _, x := range valid() {
		for symbol, n := range x.Norm {
			met := make([]int, 1<<x.Log)
			for _, span := range spansOf(t, x, symbol) {
				if span[0] < 0 || span[1] < 1 || span[0]+span[1] > len(met) {
					t.Fatalf("{%d %v of %d}: the span %v of symbol %d", x.Log, brief(x.Norm), len(x.Norm), span, symbol)
				}
				for i := range span[1] {
					met[span[0]+i]++
				}
			}
			if !slices.Equal(met, filled(len(met), min(states(n), 1))) {
				t.Errorf("{%d %v of %d}: the spans of symbol %d meet the states %v times", x.Log, brief(x.Norm), len(x.Norm), symbol, brief(met))
			}
		}
	}
}

func TestBitsAreWithinTheLog(t *testing.T) {
	for _, x := range valid() {
		for state, c := range built(t, x) {
			if c.Bits < 0 || c.Bits > x.Log {
				t.Errorf("{%d %v of %d}: state %d has %d bits", x.Log, brief(x.Norm), len(x.Norm), state, c.Bits)
			}
		}
	}
}

// The bits of a symbol's cells are one of two neighbours, and never increase.
func TestBitsOfASymbol(t *testing.T) {
	for _, x := range valid() {
		last := map[int]int{}
		for state, c := range built(t, x) {
			n := states(x.Norm[c.Symbol])
			low, high := x.Log-ceilOf(n), x.Log-floorOf(n) // of s/n, which is rounded the other way than n
			before, is := last[c.Symbol]
			if c.Bits != low && c.Bits != high || is && c.Bits > before {
				t.Errorf("{%d %v of %d}: state %d, of a symbol with %d states, has %d bits, and the one below has %d", x.Log, brief(x.Norm), len(x.Norm), state, n, c.Bits, before)
			}
			last[c.Symbol] = c.Bits
			if bits.OnesCount(uint(n)) == 1 && (low != high || c.Bits != low) {
				t.Errorf("{%d %v of %d}: state %d, of a symbol with %d states, has %d bits", x.Log, brief(x.Norm), len(x.Norm), state, n, c.Bits)
			}
			if n == 1 && c.Bits != x.Log {
				t.Errorf("{%d %v of %d}: state %d, its symbol's only one, has %d bits", x.Log, brief(x.Norm), len(x.Norm), state, c.Bits)
			}
		}
	}
}

// A symbol whose number of states is no power of two has cells of both numbers of bits.
func TestBothNumbersOfBitsOccur(t *testing.T) {
	for log := 2; log <= maxLog; log++ {
		for n := 1; n < 1<<log; n++ {
			x := api.Table{Log: log, Norm: []int{n, 1<<log - n}}
			number := map[int]int{}
			for _, c := range built(t, x) {
				if c.Symbol == 0 {
					number[c.Bits]++
				}
			}
			high := 2<<floorOf(n) - n // so many are below the next power of two
			if bits.OnesCount(uint(n)) == 1 {
				high = n
			}
			if number[log-floorOf(n)] != high || number[log-floorOf(n)-1] != n-high {
				t.Errorf("%v: symbol 0 has these numbers of bits: %v", x, number)
			}
		}
	}
}
