package spread_test

import (
	"math"
	"math/rand"
	"slices"
	"strconv"
	"testing"

	"portmanteau/api"
	"portmanteau/norm"
	"portmanteau/spread"
)

// The chapter's numbers, written out once more, so that a wrong one in the package shows.
const (
	maxLog     = 9
	maxSymbols = 256
	maxSize    = 512
)

// filled returns n norms that are all the same.
func filled(n, value int) []int { return slices.Repeat([]int{value}, n) }

// joined returns the concatenation of lists, in new memory.
func joined(lists ...[]int) []int { return slices.Concat(lists...) }

// brief shows a list in a message.
func brief(list []int) []int { return list[:min(len(list), 16)] }

// states is the number of states of a norm.
func states(n int) int { return max(n, -n) }

// key is a list as a text, for maps of the tests.
func key(list []int) string {
	text := ""
	for _, n := range list {
		text += strconv.Itoa(n) + " "
	}
	return text
}

// steps are the steps of the sizes of tables, worked out by hand.
func steps() map[int]int {
	return map[int]int{1: 1, 2: 1, 4: 1, 8: 1, 16: 13, 32: 23, 64: 43, 128: 83, 256: 163, 512: 323}
}

// spreadOf is the chapter's procedure for a valid table: each symbol goes on from the place where the one below it stopped.
func spreadOf(t api.Table) []int {
	size := 1 << t.Log
	symbols, high := filled(size, -1), size
	for symbol, n := range t.Norm {
		if n == -1 {
			high--
			symbols[high] = symbol
		}
	}
	visit := 0
	for symbol, n := range t.Norm {
		for n > 0 {
			index := visit * steps()[size] % size
			visit++
			if symbols[index] < 0 {
				symbols[index] = symbol
				n--
			}
		}
	}
	return symbols
}

// chosen returns valid tables of the kinds that the chapter names.
func chosen() []api.Table {
	tables := []api.Table{
		{Log: 2, Norm: []int{3, 1}}, {Log: 2, Norm: []int{2, -1, 1}}, {Log: 4, Norm: []int{8, 8}},
		{Log: 1, Norm: []int{1, 1}}, {Log: 1, Norm: []int{1, -1}}, {Log: 1, Norm: []int{-1, 1}}, {Log: 1, Norm: []int{-1, -1}},
		{Log: 3, Norm: []int{-1, 3, -1, 3}}, {Log: 3, Norm: []int{5, 0, 0, 3}}, {Log: 3, Norm: []int{0, 0, 7, -1}}, {Log: 3, Norm: []int{0, -1, 0, -1, 0, 6}},
		{Log: 4, Norm: []int{-1, 15}}, {Log: 4, Norm: []int{15, -1}}, {Log: 4, Norm: []int{15, 1}}, {Log: 4, Norm: []int{1, 15}}, {Log: 4, Norm: []int{5, -1, 4, -1, 4, -1}},
		{Log: 9, Norm: joined(filled(255, 1), []int{257})}, {Log: 9, Norm: joined(filled(255, -1), []int{257})}, {Log: 9, Norm: joined([]int{257}, filled(255, -1))},
		{Log: 9, Norm: filled(256, 2)}, {Log: 8, Norm: filled(256, 1)}, {Log: 8, Norm: filled(256, -1)}, {Log: 9, Norm: []int{511, -1}}, {Log: 9, Norm: []int{-1, 511}},
		{Log: 9, Norm: joined(filled(255, 0), []int{512})}, {Log: 0, Norm: joined(filled(255, 0), []int{-1})}, {Log: 5, Norm: joined(filled(254, 0), []int{-1, 31})},
		{Log: 6, Norm: []int{-1, 20, -1, 20, 0, 20, -1, 0, -1}}, {Log: 7, Norm: []int{100, 0, 0, 20, -1, -1, 6}}, {Log: 8, Norm: joined([]int{250}, filled(6, -1))},
	}
	for log := range maxLog + 1 {
		tables = append(tables, api.Table{Log: log, Norm: []int{1 << log}}, api.Table{Log: log, Norm: []int{0, 1 << log}})
		if log < maxLog {
			tables = append(tables, api.Table{Log: log, Norm: filled(1<<log, 1)}, api.Table{Log: log, Norm: filled(1<<log, -1)})
		}
		if log > 1 {
			tables = append(tables, api.Table{Log: log, Norm: []int{1, 1<<log - 2, -1}}, api.Table{Log: log, Norm: []int{-1, 1<<log - 2, -1}})
		}
	}
	return tables
}

// random returns a valid table: the states go to symbols one after the other, in portions of any size, with zeros between them.
func random(source *rand.Rand) api.Table {
	log := source.Intn(maxLog + 1)
	left, portion, rare, zeros := 1<<log, 1+source.Intn(1<<source.Intn(log+1)), source.Intn(4), source.Intn(5)
	norms := []int{}
	for left > 0 {
		n := min(left, 1+source.Intn(portion))
		if len(norms) == maxSymbols-1 {
			n = left
		} else if source.Intn(5) < zeros {
			norms = append(norms, 0)
			continue
		} else if n == 1 && source.Intn(3) < rare {
			n = -1
		}
		norms = append(norms, n)
		left -= states(n)
	}
	return api.Table{Log: log, Norm: norms}
}

// small returns all valid tables of a Log of at most 3 and of at most so many symbols.
func small(symbols int) []api.Table {
	var tables []api.Table
	var extend func(log, left int, norms []int)
	extend = func(log, left int, norms []int) {
		if left == 0 && norms[len(norms)-1] != 0 {
			tables = append(tables, api.Table{Log: log, Norm: slices.Clone(norms)})
		}
		if left == 0 || len(norms) == symbols {
			return
		}
		for n := -1; n <= left; n++ {
			extend(log, left-states(n), append(norms, n))
		}
	}
	for log := range 4 {
		extend(log, 1<<log, nil)
	}
	return tables
}

// valid returns valid tables of many kinds.
func valid() []api.Table {
	tables, source := append(chosen(), small(4)...), rand.New(rand.NewSource(8))
	for range 250 {
		tables = append(tables, random(source))
	}
	return tables
}

// invalid returns tables that are not valid.
func invalid() []api.Table {
	tables := []api.Table{
		{}, {Log: 0, Norm: []int{}}, {Log: 3}, {Log: 9, Norm: []int{1}[:0]}, {Log: -1},
		{Log: -1, Norm: []int{1}}, {Log: -1, Norm: []int{-1}}, {Log: 10, Norm: []int{1024}}, {Log: 10, Norm: []int{512}}, {Log: 10, Norm: filled(256, 4)}, {Log: 62, Norm: []int{1 << 62}},
		{Log: 64, Norm: []int{1}}, {Log: math.MaxInt, Norm: []int{1}}, {Log: math.MinInt, Norm: []int{1}}, {Log: math.MaxInt, Norm: []int{math.MaxInt}},
		{Log: 9, Norm: joined(filled(256, 1), []int{256})}, {Log: 9, Norm: joined(filled(256, -1), []int{256})}, {Log: 8, Norm: joined([]int{256}, filled(256, 0))},
		{Log: 0, Norm: joined(filled(256, 0), []int{1})}, {Log: 9, Norm: filled(512, 1)}, {Log: 9, Norm: filled(512, -1)},
		{Log: 2, Norm: []int{6, -2}}, {Log: 2, Norm: []int{2, -2}}, {Log: 1, Norm: []int{-2}}, {Log: 2, Norm: []int{-4}}, {Log: 2, Norm: []int{math.MinInt, 4}}, {Log: 3, Norm: []int{math.MinInt, math.MaxInt, 9}},
		{Log: 0, Norm: []int{0}}, {Log: 0, Norm: []int{1, 0}}, {Log: 2, Norm: []int{3, 1, 0}}, {Log: 4, Norm: []int{16, 0, 0}}, {Log: 1, Norm: []int{0, -1, -1, 0}},
		{Log: 2, Norm: []int{math.MaxInt, math.MaxInt, 6}}, {Log: 2, Norm: []int{1 << 62, 1 << 62, 1 << 62, 1 << 62, 4}},
	}
	for log := range maxLog + 1 {
		size := 1 << log
		tables = append(tables, api.Table{Log: log, Norm: []int{size + 1}}, api.Table{Log: log, Norm: []int{size, 1}}, api.Table{Log: log, Norm: []int{size, -1}})
		tables = append(tables, api.Table{Log: log, Norm: []int{-1, size}}, api.Table{Log: log, Norm: []int{2 * size}}, api.Table{Log: log, Norm: []int{size, 0}})
		if log > 0 {
			tables = append(tables, api.Table{Log: log, Norm: []int{size - 1}}, api.Table{Log: log, Norm: []int{size / 2}}, api.Table{Log: log, Norm: []int{size/2 - 1, -1}})
		}
	}
	return tables
}

// outside is symbols that no table has.
func outside() []int {
	return []int{math.MinInt, math.MinInt + 1, math.MinInt32, -257, -2, -1, 256, 257, 512, math.MaxInt32, math.MaxInt - 1, math.MaxInt}
}

// symbolsOf is Spread of a valid table.
func symbolsOf(t *testing.T, x api.Table) []int {
	t.Helper()
	got, e := spread.Spread(x)
	if e != api.OK {
		t.Fatalf("Spread({%d %v of %d}): %d", x.Log, brief(x.Norm), len(x.Norm), e)
	}
	return got
}

// The tables of these tests are what they are said to be.
func TestTheTables(t *testing.T) {
	for _, x := range valid() {
		if norm.Check(x, maxSymbols, maxLog) != api.OK {
			t.Errorf("{%d %v of %d} is not valid", x.Log, brief(x.Norm), len(x.Norm))
		}
	}
	for _, x := range invalid() {
		if norm.Check(x, maxSymbols, maxLog) != api.ErrTable {
			t.Errorf("{%d %v of %d} is valid", x.Log, brief(x.Norm), len(x.Norm))
		}
	}
}

// The table of examples

func TestExamples(t *testing.T) {
	for _, x := range []struct {
		log         int
		norms, want []int
	}{
		{2, []int{3, 1}, []int{0, 0, 0, 1}},
		{2, []int{2, -1, 1}, []int{0, 0, 2, 1}},
		{0, []int{0, 1}, []int{1}},
		{4, []int{8, 8}, []int{0, 0, 1, 1, 0, 1, 1, 0, 1, 1, 0, 0, 1, 0, 0, 1}},
	} {
		got, e := spread.Spread(api.Table{Log: x.log, Norm: x.norms})
		if e != api.OK || !slices.Equal(got, x.want) {
			t.Errorf("Spread({%d %v}) = %v, %d, want %v", x.log, x.norms, got, e, x.want)
		}
	}
	if got := spread.Step(16); got != 13 {
		t.Errorf("Step(16) = %d, want 13", got)
	}
}

// P8.1

func TestSpreadOfKnownTables(t *testing.T) {
	for _, x := range []struct {
		why         string
		log         int
		norms, want []int
	}{
		{"the only state", 0, []int{1}, []int{0}},
		{"the only state, a rare symbol's", 0, []int{-1}, []int{0}},
		{"the only state, behind a zero", 0, []int{0, -1}, []int{1}},
		{"only rare symbols, from the top down", 2, []int{-1, -1, -1, -1}, []int{3, 2, 1, 0}},
		{"only rare symbols, zeros between them", 1, []int{0, -1, 0, 0, -1}, []int{4, 1}},
		{"no rare symbol, a step of 1", 3, []int{1, 2, 3, 2}, []int{0, 1, 1, 2, 2, 2, 3, 3}},
		{"a rare symbol ahead of the others", 3, []int{-1, 4, 3}, []int{1, 1, 1, 1, 2, 2, 2, 0}},
		{"a rare symbol between the others", 3, []int{4, -1, 3}, []int{0, 0, 0, 0, 2, 2, 2, 1}},
		{"a rare symbol behind the others", 3, []int{4, 3, -1}, []int{0, 0, 0, 0, 1, 1, 1, 2}},
		{"rare symbols between and behind the others", 3, []int{3, -1, 3, -1}, []int{0, 0, 0, 2, 2, 2, 3, 1}},
		{"zeros between the others", 3, []int{0, 0, 3, 0, 5}, []int{2, 2, 2, 4, 4, 4, 4, 4}},
		{"one state that is no rare symbol's", 4, []int{1, 15}, []int{0, 1, 1, 1, 1, 1, 1, 1, 1, 1, 1, 1, 1, 1, 1, 1}},
		{"one state behind all others", 4, []int{15, 1}, []int{0, 0, 0, 1, 0, 0, 0, 0, 0, 0, 0, 0, 0, 0, 0, 0}},
		{"one state that is a rare symbol's", 4, []int{15, -1}, []int{0, 0, 0, 0, 0, 0, 0, 0, 0, 0, 0, 0, 0, 0, 0, 1}},
		{"an index that the visits skip", 4, []int{2, -1, 12, -1}, []int{0, 2, 2, 2, 2, 2, 2, 2, 2, 2, 2, 2, 2, 0, 3, 1}},
		{"indices that the visits skip", 4, []int{2, -1, 10, -1, -1, -1}, []int{0, 2, 2, 2, 2, 2, 2, 2, 2, 2, 0, 2, 5, 4, 3, 1}},
	} {
		got, e := spread.Spread(api.Table{Log: x.log, Norm: x.norms})
		if e != api.OK || !slices.Equal(got, x.want) {
			t.Errorf("%s: Spread({%d %v}) = %v, %d, want %v", x.why, x.log, x.norms, got, e, x.want)
		}
	}
}

func TestSpreadAgainstTheDefinition(t *testing.T) {
	for _, x := range valid() {
		if got, want := symbolsOf(t, x), spreadOf(x); !slices.Equal(got, want) {
			t.Errorf("Spread({%d %v of %d}) = %v, want %v", x.Log, brief(x.Norm), len(x.Norm), got, want)
		}
	}
}

func TestSpreadOfASingleSymbol(t *testing.T) {
	for log := range maxLog + 1 {
		for _, symbol := range []int{0, 1, 77, 255} {
			got := symbolsOf(t, api.Table{Log: log, Norm: joined(filled(symbol, 0), []int{1 << log})})
			if !slices.Equal(got, filled(1<<log, symbol)) {
				t.Errorf("symbol %d, with all states of the Log %d: %v", symbol, log, got)
			}
		}
	}
}

func TestSpreadOfInvalidTables(t *testing.T) {
	for _, x := range invalid() {
		if got, e := spread.Spread(x); e != api.ErrTable || got != nil {
			t.Errorf("Spread({%d %v of %d}) = %v, %d, want ErrTable", x.Log, brief(x.Norm), len(x.Norm), got, e)
		}
	}
}

// A table of 256 norms is the longest; the greatest Log is 9.
func TestSpreadAtTheLimits(t *testing.T) {
	for log := range 12 {
		for _, length := range []int{1, 2, 255, 256, 257, 258, 1000} {
			want := api.OK
			if log > 9 || length > 256 {
				want = api.ErrTable
			}
			x := api.Table{Log: log, Norm: joined(filled(length-1, 0), []int{1 << log})}
			if _, e := spread.Spread(x); e != want {
				t.Errorf("Spread of the Log %d and %d norms: %d, want %d", log, length, e, want)
			}
			if _, e := spread.Positions(x, 0); e != want {
				t.Errorf("Positions of the Log %d and %d norms: %d, want %d", log, length, e, want)
			}
		}
	}
}

// The norms stay as they are, and so does what is behind them; the lists are the caller's own.
func TestNothingIsShared(t *testing.T) {
	for _, x := range chosen() {
		room := joined(x.Norm, []int{-77, -78, -79})
		own := api.Table{Log: x.Log, Norm: room[:len(x.Norm)]}
		last := len(x.Norm) - 1
		symbols := symbolsOf(t, own)
		places, e := spread.Positions(own, last)
		if e != api.OK {
			t.Fatalf("Positions(%v): %d", brief(x.Norm), e)
		}
		for _, list := range [][]int{symbols, places} {
			for i := range list {
				list[i] = -500
			}
			_ = append(list, -501, -502)
		}
		if !slices.Equal(room, joined(x.Norm, []int{-77, -78, -79})) {
			t.Fatalf("the norms %v changed", brief(x.Norm))
		}
		symbols = symbolsOf(t, own)
		if places, e = spread.Positions(own, last); e != api.OK || !slices.Equal(symbols, spreadOf(x)) || !slices.Equal(places, placesOf(x, last)) {
			t.Fatalf("the second answers about %v differ: %v, %v", brief(x.Norm), symbols, places)
		}
		for i := range room {
			room[i] = 0
		}
		if !slices.Equal(symbols, spreadOf(x)) || !slices.Equal(places, placesOf(x, last)) {
			t.Fatalf("the answers about %v changed with the norms", brief(x.Norm))
		}
	}
}

// P8.2

// placesOf is the indices of a symbol, by the chapter's procedure.
func placesOf(x api.Table, symbol int) []int {
	places := []int{}
	for index, s := range spreadOf(x) {
		if s == symbol {
			places = append(places, index)
		}
	}
	return places
}

func TestPositionsOfKnownTables(t *testing.T) {
	for _, x := range []struct {
		log    int
		norms  []int
		symbol int
		want   []int
	}{
		{0, []int{1}, 0, []int{0}}, {0, []int{0, -1}, 1, []int{0}}, {0, []int{0, -1}, 0, nil},
		{2, []int{2, -1, 1}, 0, []int{0, 1}}, {2, []int{2, -1, 1}, 1, []int{3}}, {2, []int{2, -1, 1}, 2, []int{2}}, {2, []int{2, -1, 1}, 3, nil},
		{3, []int{5, 0, 3}, 1, nil}, {3, []int{5, 0, 3}, 2, []int{5, 6, 7}},
		{4, []int{8, 8}, 0, []int{0, 1, 4, 7, 10, 11, 13, 14}}, {4, []int{8, 8}, 1, []int{2, 3, 5, 6, 8, 9, 12, 15}},
		{4, []int{2, -1, 12, -1}, 0, []int{0, 13}}, {4, []int{2, -1, 12, -1}, 1, []int{15}}, {4, []int{2, -1, 12, -1}, 3, []int{14}},
		{9, []int{3, 509}, 0, []int{0, 134, 323}},
	} {
		got, e := spread.Positions(api.Table{Log: x.log, Norm: x.norms}, x.symbol)
		if e != api.OK || !slices.Equal(got, x.want) {
			t.Errorf("Positions({%d %v}, %d) = %v, %d, want %v", x.log, x.norms, x.symbol, got, e, x.want)
		}
	}
}

// The indices increase, and they are those that Spread says.
func TestPositionsAgainstTheDefinition(t *testing.T) {
	for _, x := range valid() {
		symbols := spreadOf(x)
		places := map[int][]int{}
		for index, symbol := range symbols {
			places[symbol] = append(places[symbol], index)
		}
		for symbol := -1; symbol <= len(x.Norm); symbol++ {
			got, e := spread.Positions(x, symbol)
			if e != api.OK || !slices.Equal(got, places[symbol]) || !slices.IsSorted(got) {
				t.Errorf("Positions({%d %v of %d}, %d) = %v, %d, want %v", x.Log, brief(x.Norm), len(x.Norm), symbol, got, e, places[symbol])
			}
		}
	}
}

func TestPositionsOfNoSymbol(t *testing.T) {
	for _, x := range chosen() {
		for _, symbol := range append(outside(), len(x.Norm), len(x.Norm)+1) {
			if got, e := spread.Positions(x, symbol); e != api.OK || len(got) != 0 {
				t.Errorf("Positions({%d %v of %d}, %d) = %v, %d, want none", x.Log, brief(x.Norm), len(x.Norm), symbol, got, e)
			}
		}
		for symbol, n := range x.Norm {
			if got, e := spread.Positions(x, symbol); n == 0 && (e != api.OK || len(got) != 0) {
				t.Errorf("Positions({%d %v of %d}, %d) = %v, %d, want none", x.Log, brief(x.Norm), len(x.Norm), symbol, got, e)
			}
		}
	}
}

// An invalid table is an error whatever the symbol.
func TestPositionsOfInvalidTables(t *testing.T) {
	for _, x := range invalid() {
		for _, symbol := range append(outside(), 0, 1, 2, 255) {
			if got, e := spread.Positions(x, symbol); e != api.ErrTable || got != nil {
				t.Errorf("Positions({%d %v of %d}, %d) = %v, %d, want ErrTable", x.Log, brief(x.Norm), len(x.Norm), symbol, got, e)
			}
		}
	}
}

// P8.3

func TestStepOfTheSizesOfTables(t *testing.T) {
	for size, want := range steps() {
		if got := spread.Step(size); got != want {
			t.Errorf("Step(%d) = %d, want %d", size, got, want)
		}
	}
}

func TestStepOfOtherSizes(t *testing.T) {
	for size, want := range map[int]int{
		3: 1, 14: 1, 15: 1, 17: 13, 18: 14, 23: 16, 24: 18, 25: 18, 31: 21, 33: 23, 100: 65, 255: 161, 257: 163, 510: 321, 511: 321,
	} {
		if got := spread.Step(size); got != want {
			t.Errorf("Step(%d) = %d, want %d", size, got, want)
		}
	}
	for size := 16; size <= maxSize; size++ {
		want := int(math.Floor(float64(size)/2)) + int(math.Floor(float64(size)/8)) + 3
		if got := spread.Step(size); got != want {
			t.Errorf("Step(%d) = %d, want %d", size, got, want)
		}
	}
}

func TestStepOfClampedSizes(t *testing.T) {
	for _, size := range []int{math.MinInt, math.MinInt + 1, math.MinInt32, -512, -16, -1, 0} {
		if got := spread.Step(size); got != 1 {
			t.Errorf("Step(%d) = %d, want 1", size, got)
		}
	}
	for _, size := range []int{513, 514, 520, 1000, 1024, 1 << 20, math.MaxInt32, 1 << 62, math.MaxInt - 1, math.MaxInt} {
		if got := spread.Step(size); got != 323 {
			t.Errorf("Step(%d) = %d, want 323", size, got)
		}
	}
}

// P8.4

// Every symbol gets as many indices as it has states; every index is exactly one symbol's.
func TestEveryIndexHasASymbol(t *testing.T) {
	for _, x := range valid() {
		owner := map[int]int{}
		for symbol, n := range x.Norm {
			got, e := spread.Positions(x, symbol)
			if e != api.OK || len(got) != states(n) {
				t.Fatalf("Positions({%d %v of %d}, %d) = %v, %d, want %d of them", x.Log, brief(x.Norm), len(x.Norm), symbol, got, e, states(n))
			}
			for _, index := range got {
				if _, twice := owner[index]; twice || index < 0 || index >= 1<<x.Log {
					t.Fatalf("Positions({%d %v of %d}, %d) = %v: %d is another symbol's, or no index", x.Log, brief(x.Norm), len(x.Norm), symbol, got, index)
				}
				owner[index] = symbol
			}
		}
		symbols := symbolsOf(t, x)
		if len(symbols) != 1<<x.Log || len(owner) != 1<<x.Log {
			t.Fatalf("{%d %v of %d} has %d indices, and %d of them are of symbols", x.Log, brief(x.Norm), len(x.Norm), len(symbols), len(owner))
		}
		for index, symbol := range symbols {
			if owner[index] != symbol {
				t.Fatalf("{%d %v of %d}: index %d is of %d, and of %d", x.Log, brief(x.Norm), len(x.Norm), index, symbol, owner[index])
			}
		}
	}
}

func TestStepsVisitEveryIndexOnce(t *testing.T) {
	for log := range maxLog + 1 {
		size, at := 1<<log, 0
		seen := map[int]bool{}
		for range size {
			if seen[at] {
				t.Errorf("the size %d: %d is visited twice", size, at)
			}
			seen[at] = true
			at = (at + spread.Step(size)) % size
		}
		if len(seen) != size || at != 0 {
			t.Errorf("the size %d: %d indices are visited, and %d at the end", size, len(seen), at)
		}
	}
}

// The rare symbols have the highest indices, the lowest of them the highest of all.
func TestRareSymbolsAreHighest(t *testing.T) {
	for _, x := range valid() {
		symbols := symbolsOf(t, x)
		high := len(symbols)
		for symbol, n := range x.Norm {
			if n == -1 {
				high--
				if symbols[high] != symbol {
					t.Errorf("{%d %v of %d}: index %d is of %d, want the rare symbol %d", x.Log, brief(x.Norm), len(x.Norm), high, symbols[high], symbol)
				}
			}
		}
		for index, symbol := range symbols[:high] {
			if x.Norm[symbol] <= 0 {
				t.Errorf("{%d %v of %d}: index %d is of %d, which has the norm %d", x.Log, brief(x.Norm), len(x.Norm), index, symbol, x.Norm[symbol])
			}
		}
	}
}

// Among all small tables, those with the same spread have the same states, and some of them differ in their norms.
func TestTablesWithTheSameSpread(t *testing.T) {
	first, differ := map[string]api.Table{}, 0
	for _, x := range small(5) {
		name := key(symbolsOf(t, x))
		other, is := first[name]
		if !is {
			first[name] = x
			continue
		}
		differ++
		if other.Log != x.Log || len(other.Norm) != len(x.Norm) {
			t.Fatalf("%v and %v have the same spread", other, x)
		}
		for symbol, n := range x.Norm {
			if states(n) != states(other.Norm[symbol]) {
				t.Fatalf("%v and %v have the same spread", other, x)
			}
		}
	}
	if differ == 0 {
		t.Error("no two tables have the same spread")
	}
	a := symbolsOf(t, api.Table{Log: 2, Norm: []int{3, 1}})
	b := symbolsOf(t, api.Table{Log: 2, Norm: []int{3, -1}})
	c := symbolsOf(t, api.Table{Log: 2, Norm: []int{1, 3}})
	d := symbolsOf(t, api.Table{Log: 2, Norm: []int{-1, 3}})
	if !slices.Equal(a, b) || slices.Equal(c, d) || slices.Equal(a, c) {
		t.Errorf("the spreads of 3 1, of 3 -1, of 1 3 and of -1 3: %v, %v, %v, %v", a, b, c, d)
	}
}

// The same table has the same spread in every call.
func TestSpreadsAreRepeatable(t *testing.T) {
	for _, x := range chosen() {
		first := symbolsOf(t, x)
		for range 5 {
			if again := symbolsOf(t, x); !slices.Equal(again, first) {
				t.Fatalf("Spread({%d %v of %d}) = %v, and then %v", x.Log, brief(x.Norm), len(x.Norm), first, again)
			}
		}
	}
}
