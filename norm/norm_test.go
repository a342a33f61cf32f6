package norm_test

import (
	"math"
	"math/big"
	"math/rand"
	"slices"
	"testing"

	"portmanteau/api"
	"portmanteau/norm"
)

// The chapter's numbers, written out once more, so that a wrong one in the package shows.
const (
	maxLog   = 9
	maxTotal = 1099511627776
)

// filled returns n counts that are all the same.
func filled(n, count int) []int { return slices.Repeat([]int{count}, n) }

// joined returns the concatenation of lists, in new memory.
func joined(lists ...[]int) []int { return slices.Concat(lists...) }

// brief shows a list in a message.
func brief(list []int) []int { return list[:min(len(list), 12)] }

// used is the number of symbols with a positive count.
func used(counts []int) int {
	many := 0
	for _, count := range counts {
		if count > 0 {
			many++
		}
	}
	return many
}

// total is the sum of counts, of any size.
func total(counts []int) *big.Int {
	sum := new(big.Int)
	for _, count := range counts {
		sum.Add(sum, big.NewInt(int64(count)))
	}
	return sum
}

// validCounts is the chapter's definition.
func validCounts(counts []int) bool {
	for _, count := range counts {
		if count < 0 {
			return false
		}
	}
	return used(counts) > 0 && total(counts).Cmp(big.NewInt(maxTotal)) <= 0
}

// validTable is the chapter's definition, with sums of any size.
func validTable(t api.Table, symbols, log int) bool {
	if t.Log < 0 || t.Log > log || t.Log > maxLog || len(t.Norm) < 1 || len(t.Norm) > symbols || t.Norm[len(t.Norm)-1] == 0 {
		return false
	}
	sum := new(big.Int)
	for _, n := range t.Norm {
		if n < -1 {
			return false
		}
		states := big.NewInt(int64(n))
		sum.Add(sum, states.Abs(states))
	}
	return sum.Cmp(big.NewInt(1<<t.Log)) == 0
}

// shares are the shares of the symbols in a table of that Log, as rational numbers.
func shares(counts []int, log int) []*big.Rat {
	all := make([]*big.Rat, len(counts))
	for symbol, count := range counts {
		product := new(big.Int).Mul(big.NewInt(int64(count)), big.NewInt(1<<log))
		all[symbol] = new(big.Rat).SetFrac(product, total(counts))
	}
	return all
}

// floor is the greatest integer that is not above a rational number that is not negative.
func floor(x *big.Rat) int { return int(new(big.Int).Quo(x.Num(), x.Denom()).Int64()) }

// distance is x minus n.
func distance(x *big.Rat, n int) *big.Rat {
	return new(big.Rat).Sub(x, new(big.Rat).SetInt64(int64(n)))
}

// normalized is the chapter's procedure, step by step, with rational numbers.
func normalized(counts []int, log int) []int {
	share, states, sum := shares(counts, log), make([]int, len(counts)), 0
	for symbol, count := range counts {
		if count > 0 {
			states[symbol] = max(1, floor(share[symbol]))
			sum += states[symbol]
		}
	}
	for ; sum < 1<<log; sum++ {
		best := -1
		for symbol, count := range counts {
			if count > 0 && (best < 0 || distance(share[symbol], states[symbol]).Cmp(distance(share[best], states[best])) > 0) {
				best = symbol
			}
		}
		states[best]++
	}
	for ; sum > 1<<log; sum-- {
		best := -1
		for symbol := range counts {
			if states[symbol] > 1 && (best < 0 || distance(share[symbol], states[symbol]).Cmp(distance(share[best], states[best])) < 0) {
				best = symbol
			}
		}
		states[best]--
	}
	end := 0
	for symbol, count := range counts {
		if count > 0 {
			end = symbol + 1
			if share[symbol].Cmp(big.NewRat(1, 1)) < 0 {
				states[symbol] = -1
			}
		}
	}
	return states[:end]
}

// fits reports whether the counts can be normalized for that Log.
func fits(counts []int, log int) bool {
	return validCounts(counts) && log >= 0 && log <= maxLog && used(counts) <= 1<<log
}

// chosen returns valid counts of the kinds that the chapter names.
func chosen() [][]int {
	return [][]int{
		{1}, {7}, {maxTotal}, {0, 9}, {9, 0}, {0, 9, 0}, {0, 0, 0, 1, 0, 0, 0},
		{3, 1}, {5, 1, 1}, {100, 1, 0}, {1, 1, 1}, {1, 1}, {4, 4}, {1, 2, 3, 4}, {4, 3, 2, 1}, {7, 0, 7, 2},
		{10, 11, 12}, {12, 11, 10}, {1000, 1, 1, 1, 1}, {1, 1, 1, 1, 1000}, {60, 40, 1, 1, 1, 1, 1}, {1, 1, 1, 40, 60}, {1, 40, 1, 40, 1, 1, 40},
		{maxTotal / 2, maxTotal / 2}, {maxTotal - 1, 1}, {1, maxTotal - 1}, {1, maxTotal - 2, 1}, {maxTotal / 3, maxTotal / 3, maxTotal / 3},
		{511, 1}, {512, 1}, {513, 1}, {1023, 1}, {1, 0, 511}, {255, 1}, {256, 1}, {254, 1, 1},
		filled(2, 5), filled(3, 5), filled(255, 1), filled(256, 1), filled(257, 1), filled(300, 3), filled(511, 2), filled(512, 1), filled(512, 1<<31),
		joined(filled(511, 1), []int{1000}), joined([]int{1000}, filled(511, 1)), joined(filled(100, 1), filled(100, 5), filled(100, 25)),
		joined(filled(31, 7), []int{maxTotal / 2}), joined(filled(2000, 0), []int{3, 2, 2}, filled(2000, 0)),
		joined(filled(200, 1), filled(56, 1000)), joined(filled(56, 1000), filled(200, 1)), joined(filled(255, maxTotal/512), []int{1}),
	}
}

// random returns valid counts, of few values (so that there are ties) or of many, some of them with great differences.
func random(source *rand.Rand, symbols int) []int {
	counts := make([]int, 1+source.Intn(symbols))
	most, zeros := 1+source.Intn(1<<source.Intn(31)), 1+source.Intn(5)
	for symbol := range counts {
		if source.Intn(zeros) == 0 {
			counts[symbol] = 1 + source.Intn(most)
		}
		if source.Intn(20) == 0 {
			counts[symbol] *= 1 + source.Intn(100)
		}
	}
	counts[source.Intn(len(counts))] = most
	return counts
}

// valid returns valid counts of many kinds.
func valid() [][]int {
	all, source := chosen(), rand.New(rand.NewSource(7))
	for range 1500 {
		all = append(all, random(source, 12))
	}
	for range 60 {
		all = append(all, random(source, 300))
	}
	return all
}

// invalid returns counts that are not valid: none, only zeros, negative ones at every place, and sums that are too great or that overflow.
func invalid() [][]int {
	all := [][]int{
		nil, {}, {0}, {0, 0, 0}, filled(1000, 0), []int{5}[:0],
		{maxTotal + 1}, {maxTotal, 1}, {1, maxTotal}, {maxTotal, maxTotal}, {maxTotal - 1, 1, 1}, {maxTotal / 2, 0, maxTotal / 2, 1},
		{math.MaxInt}, {math.MaxInt, 1}, {math.MaxInt, math.MaxInt}, {math.MaxInt, math.MaxInt, 2}, {1 << 62, 1 << 62, 1 << 62, 1 << 62},
		{math.MaxInt, math.MaxInt, 3}, {1, math.MaxInt}, {5, math.MaxInt, math.MaxInt}, {4, 1 << 62, 1 << 62, 1 << 62, 1 << 62}, joined(filled(511, 1), []int{maxTotal}), filled(512, 1<<31+1),
	}
	for _, bad := range []int{-1, -2, -maxTotal, math.MinInt32, math.MinInt} {
		for n := 1; n < 5; n++ {
			for at := range n {
				for _, other := range []int{0, 1, maxTotal, math.MaxInt} {
					counts := filled(n, other)
					counts[at] = bad
					all = append(all, counts)
				}
			}
		}
	}
	return all
}

// great is integers at which a shift or a sum could fail.
func great() []int {
	return []int{math.MinInt, math.MinInt + 1, math.MinInt32, -65, -64, -2, -1, 10, 11, 31, 32, 62, 63, 64, 65, 1000, math.MaxInt32, math.MaxInt - 1, math.MaxInt}
}

// The table of examples

func TestExamples(t *testing.T) {
	for _, x := range []struct {
		counts []int
		log    int
		want   []int
		e      api.Errno
	}{
		{[]int{3, 1}, 2, []int{3, 1}, api.OK},
		{[]int{5, 1, 1}, 2, []int{2, -1, -1}, api.OK},
		{[]int{100, 1, 0}, 1, []int{1, -1}, api.OK},
		{[]int{1, 1, 1}, 1, nil, api.ErrArg},
	} {
		got, e := norm.Normalize(x.counts, x.log)
		if e != x.e || !slices.Equal(got.Norm, x.want) || e == api.OK && got.Log != x.log {
			t.Errorf("Normalize(%v, %d) = %v, %d, want the norms %v, %d", x.counts, x.log, got, e, x.want, x.e)
		}
	}
	for _, x := range []struct {
		counts []int
		want   int
	}{{[]int{4, 4}, 2}, {[]int{0, 7}, 0}, {[]int{1, 1, 1}, 2}} {
		if got := norm.RecommendLog(x.counts, 9); got != x.want {
			t.Errorf("RecommendLog(%v, 9) = %d, want %d", x.counts, got, x.want)
		}
	}
}

// P7.1

// check holds Check against what the test knows.
func check(t *testing.T, log int, norms []int, symbols, most int, want api.Errno) {
	t.Helper()
	if got := norm.Check(api.Table{Log: log, Norm: norms}, symbols, most); got != want {
		t.Errorf("Check({%d %v of %d}, %d, %d) = %d, want %d", log, brief(norms), len(norms), symbols, most, got, want)
	}
}

// Every Log from 0 to 9 is good up to the Log bound; the bound itself may be greater than 9, but the Log may not.
func TestCheckOfLogs(t *testing.T) {
	for most := -3; most < 15; most++ {
		for log := range 10 {
			want := api.OK
			if log > most {
				want = api.ErrTable
			}
			check(t, log, []int{1 << log}, 1, most, want)
			if log > 0 {
				check(t, log, []int{1<<log - 1, 1}, 2, most, want)
				check(t, log, []int{-1, 1<<log - 2, -1}, 3, most, want)
			}
		}
	}
	for _, most := range great() {
		for log := range 10 {
			want := api.OK
			if most < log {
				want = api.ErrTable
			}
			check(t, log, []int{1 << log}, 1, most, want)
		}
	}
}

// A Log below 0 or above 9 is never good, whatever the norms sum to.
func TestCheckOfLogsOutOfRange(t *testing.T) {
	for _, log := range great() {
		for _, most := range append(great(), 0, 5, 9) {
			for _, norms := range [][]int{{1}, {-1}, {1 << 10}, {1 << 11}, {512}, {1 << 62}, {math.MaxInt}, {1, 1}, nil} {
				check(t, log, norms, 20, most, api.ErrTable)
			}
		}
	}
}

func TestCheckOfSymbolBounds(t *testing.T) {
	for log := range 10 {
		for n := 1; n <= 1<<log; n = n*2 + 1 {
			norms := joined(filled(n-1, 1), []int{1<<log - n + 1})
			for symbols := -2; symbols < n+3; symbols++ {
				want := api.OK
				if n > symbols {
					want = api.ErrTable
				}
				check(t, log, norms, symbols, 9, want)
			}
			check(t, log, norms, math.MaxInt, 9, api.OK)
			check(t, log, norms, math.MinInt, 9, api.ErrTable)
		}
	}
	for _, symbols := range append(great(), 0, 1, 2) {
		for _, log := range []int{0, 1, 9} {
			check(t, log, nil, symbols, 9, api.ErrTable)
			check(t, log, []int{}, symbols, 9, api.ErrTable)
			check(t, log, []int{1}[:0], symbols, 9, api.ErrTable)
		}
	}
}

// The symbols that do not occur count against the bound too.
func TestCheckOfZerosBetween(t *testing.T) {
	norms := joined(filled(999, 0), []int{4})
	check(t, 2, norms, 1000, 9, api.OK)
	check(t, 2, norms, 999, 9, api.ErrTable)
	check(t, 2, []int{0, 2, 0, -1, 0, 1}, 6, 2, api.OK)
	check(t, 2, []int{0, 2, 0, -1, 0, 1}, 5, 2, api.ErrTable)
}

func TestCheckOfALastNormOfZero(t *testing.T) {
	for log := range 10 {
		check(t, log, []int{1 << log}, 9, 9, api.OK)
		check(t, log, []int{1 << log, 0}, 9, 9, api.ErrTable)
		check(t, log, []int{1 << log, 0, 0}, 9, 9, api.ErrTable)
		check(t, log, []int{0, 1 << log}, 9, 9, api.OK)
	}
	check(t, 0, []int{0}, 9, 9, api.ErrTable)
	check(t, 2, []int{2, -1, 1, 0}, 9, 9, api.ErrTable)
}

// A norm below -1 is bad at every place, even where the states would sum to the right number.
func TestCheckOfNormsBelowMinusOne(t *testing.T) {
	check(t, 2, []int{2, -2}, 9, 9, api.ErrTable)
	check(t, 2, []int{6, -2}, 9, 9, api.ErrTable)
	check(t, 2, []int{-4}, 9, 9, api.ErrTable)
	check(t, 1, []int{-2}, 9, 9, api.ErrTable)
	check(t, 0, []int{2, -2, 1}, 9, 9, api.ErrTable)
	for _, bad := range []int{-2, -3, -512, math.MinInt32, math.MinInt + 1, math.MinInt} {
		for at := range 4 {
			for _, rest := range []int{0, 1, -1, 2, math.MaxInt} {
				norms := filled(4, rest)
				norms[at] = bad
				for log := range 10 {
					check(t, log, norms, 9, 9, api.ErrTable)
				}
			}
		}
	}
}

func TestCheckOfSums(t *testing.T) {
	for log := range 10 {
		states := 1 << log
		check(t, log, filled(states, 1), states, 9, api.OK)
		check(t, log, filled(states, -1), states, 9, api.OK)
		check(t, log, []int{states + 1}, 9, 9, api.ErrTable)
		check(t, log, []int{states, 1}, 9, 9, api.ErrTable)
		check(t, log, []int{states, -1}, 9, 9, api.ErrTable)
		check(t, log, []int{1, states}, 9, 9, api.ErrTable)
		check(t, log, []int{2 * states}, 9, 9, api.ErrTable)
		check(t, log, filled(states+1, 1), 600, 9, api.ErrTable)
		check(t, log, filled(states+1, -1), 600, 9, api.ErrTable)
		if states > 1 {
			check(t, log, []int{states - 1}, 9, 9, api.ErrTable)
			check(t, log, filled(states-1, 1), 600, 9, api.ErrTable)
			check(t, log, filled(states-1, -1), 600, 9, api.ErrTable)
			check(t, log, []int{states - 1, -1}, 9, 9, api.OK)
		}
	}
}

// The sums of these norms, taken modulo 2^64, would be a good number of states.
func TestCheckOfSumsThatOverflow(t *testing.T) {
	for log := range 10 {
		states := 1 << log
		for _, norms := range [][]int{
			{math.MaxInt, math.MaxInt, states + 2},
			{math.MaxInt, math.MaxInt, 2, states},
			{1, math.MaxInt, math.MaxInt, states + 1},
			{1 << 62, 1 << 62, 1 << 62, 1 << 62, states},
			{states, 1 << 62, 1 << 62, 1 << 62, 1 << 62},
			joined(filled(128, 1<<57), []int{states}),
			{math.MaxInt}, {math.MaxInt, 1}, {math.MaxInt, -1, -1, states}, {1 << 62, 1 << 62}, {1<<32 + states},
		} {
			check(t, log, norms, 1000, 9, api.ErrTable)
		}
	}
}

// All small tables, and random ones, against the definition.
func TestCheckAgainstTheDefinition(t *testing.T) {
	values := []int{-2, -1, 0, 1, 2, 3, 4}
	for length := range 5 {
		norms := make([]int, length)
		var from func(at int)
		from = func(at int) {
			if at < length {
				for _, n := range values {
					norms[at] = n
					from(at + 1)
				}
				return
			}
			for log := -1; log < 5; log++ {
				for _, bound := range [][2]int{{length, log}, {length - 1, log}, {length, log - 1}, {length + 1, 9}, {9, 2}} {
					want := api.ErrTable
					if validTable(api.Table{Log: log, Norm: norms}, bound[0], bound[1]) {
						want = api.OK
					}
					check(t, log, norms, bound[0], bound[1], want)
				}
			}
		}
		from(0)
	}
}

func TestEqual(t *testing.T) {
	tables := []api.Table{
		{}, {Log: 1}, {Log: -1}, {Log: 0, Norm: []int{1}}, {Log: 1, Norm: []int{1}}, {Log: 0, Norm: []int{-1}}, {Log: 0, Norm: []int{0}},
		{Log: 0, Norm: []int{1, 0}}, {Log: 0, Norm: []int{0, 1}}, {Log: 2, Norm: []int{2, -1, 1}}, {Log: 2, Norm: []int{2, 1, -1}}, {Log: 2, Norm: []int{2, 1, 1}},
		{Log: 3, Norm: []int{2, 1, 1}}, {Log: 2, Norm: []int{2, 1}}, {Log: 2, Norm: []int{2, 1, 1, 0}}, {Log: math.MaxInt, Norm: []int{math.MinInt}}, {Log: math.MinInt, Norm: []int{math.MinInt}},
	}
	for i, a := range tables {
		for k, b := range tables {
			b.Norm = append(slices.Clone(b.Norm), 77)[:len(b.Norm)]
			if got := norm.Equal(a, b); got != (i == k) {
				t.Errorf("Equal(%v, %v) = %v", a, b, got)
			}
		}
	}
	if !norm.Equal(api.Table{Log: 4}, api.Table{Log: 4, Norm: []int{}}) || !norm.Equal(api.Table{Norm: []int{}}, api.Table{}) {
		t.Error("Equal: no norms and an empty list of norms are the same")
	}
}

// P7.2

func TestNormalizeOfKnownCounts(t *testing.T) {
	for _, x := range []struct {
		why    string
		counts []int
		log    int
		want   []int
	}{
		{"one symbol gets all", []int{9}, 0, []int{1}},
		{"one symbol gets all", []int{9}, 9, []int{512}},
		{"one symbol, zeros around it", []int{0, 9, 0}, 3, []int{0, 8}},
		{"the greatest total", []int{maxTotal}, 9, []int{512}},
		{"the greatest total in two", []int{maxTotal - 1, 1}, 9, []int{511, -1}},
		{"whole shares", []int{7, 0, 7, 2}, 4, []int{7, 0, 7, 2}},
		{"a share of exactly 1", []int{511, 1}, 9, []int{511, 1}},
		{"a share just below 1", []int{512, 1}, 9, []int{511, -1}},
		{"two states are added, ties to the lower symbols", []int{1, 1, 1}, 3, []int{3, 3, 2}},
		{"one state is added, ties to the lowest symbol", []int{5, 5, 5}, 2, []int{2, 1, 1}},
		{"states are added by the greater remainders", []int{10, 11, 12}, 3, []int{2, 3, 3}},
		{"states are added by the greater remainders", []int{12, 11, 10}, 3, []int{3, 3, 2}},
		{"one state is removed", []int{1000, 1, 1, 1, 1}, 3, []int{4, -1, -1, -1, -1}},
		{"states are removed from the two great ones", []int{60, 40, 1, 1, 1, 1, 1}, 3, []int{2, 1, -1, -1, -1, -1, -1}},
		{"ties at removing go to the lower symbol", []int{40, 40, 1, 1, 1}, 3, []int{2, 3, -1, -1, -1}},
		{"ties at removing go to the lower symbol", []int{1, 40, 1, 40, 1}, 3, []int{-1, 2, -1, 3, -1}},
		{"as many symbols as states", []int{9, 1, 1, 1}, 2, []int{1, -1, -1, -1}},
		{"as many symbols as states, all the same", []int{3, 3, 3, 3}, 2, []int{1, 1, 1, 1}},
		{"zeros at the end", []int{3, 1, 0, 0, 0}, 2, []int{3, 1}},
		{"zeros at the beginning", []int{0, 0, 3, 0, 1}, 2, []int{0, 0, 3, 0, 1}},
	} {
		got, e := norm.Normalize(x.counts, x.log)
		if e != api.OK || got.Log != x.log || !slices.Equal(got.Norm, x.want) {
			t.Errorf("%s: Normalize(%v, %d) = %v, %d, want the norms %v", x.why, x.counts, x.log, got, e, x.want)
		}
	}
}

func TestNormalizeAgainstTheDefinition(t *testing.T) {
	for _, counts := range valid() {
		for log := range 10 {
			if len(counts) > 50 && log < 8 && log != 5 {
				continue
			}
			got, e := norm.Normalize(counts, log)
			if !fits(counts, log) {
				if e != api.ErrArg || got.Log != 0 || got.Norm != nil {
					t.Errorf("Normalize(%v of %d, %d) = %v, %d, want ErrArg", brief(counts), len(counts), log, got, e)
				}
				continue
			}
			if want := normalized(counts, log); e != api.OK || got.Log != log || !slices.Equal(got.Norm, want) {
				t.Errorf("Normalize(%v of %d, %d) = %v, %d, want the norms %v", brief(counts), len(counts), log, got, e, want)
			}
		}
	}
}

// All counts of up to four symbols that are at most 5.
func TestNormalizeOfAllSmallCounts(t *testing.T) {
	for n := range 6 * 6 * 6 * 6 {
		counts := []int{n % 6, n / 6 % 6, n / 36 % 6, n / 216}
		for log := range 6 {
			got, e := norm.Normalize(counts, log)
			if fits(counts, log) != (e == api.OK) || e != api.OK && (e != api.ErrArg || got.Log != 0 || got.Norm != nil) {
				t.Fatalf("Normalize(%v, %d) = %v, %d", counts, log, got, e)
			}
			if e == api.OK && !slices.Equal(got.Norm, normalized(counts, log)) {
				t.Fatalf("Normalize(%v, %d) = %v, want the norms %v", counts, log, got, normalized(counts, log))
			}
		}
	}
}

// rejects expects Normalize to return ErrArg and nothing else.
func rejects(t *testing.T, counts []int, log int) {
	t.Helper()
	if got, e := norm.Normalize(counts, log); e != api.ErrArg || got.Log != 0 || got.Norm != nil {
		t.Errorf("Normalize(%v of %d, %d) = {%d %v}, %d, want ErrArg and the zero table", brief(counts), len(counts), log, got.Log, brief(got.Norm), e)
	}
}

func TestNormalizeOfInvalidCounts(t *testing.T) {
	for _, counts := range invalid() {
		for log := range 10 {
			rejects(t, counts, log)
		}
		for _, log := range great() {
			rejects(t, counts, log)
		}
	}
}

func TestNormalizeOfLogsOutOfRange(t *testing.T) {
	for _, log := range great() {
		for _, counts := range chosen() {
			rejects(t, counts, log)
		}
	}
}

// As many symbols as there are states are enough for each to have one; one more is too many.
func TestNormalizeOfManySymbols(t *testing.T) {
	for log := range 10 {
		states := 1 << log
		for _, gap := range []int{0, 1, 3} {
			counts := []int{}
			for range states {
				counts = append(counts, filled(gap, 0)...)
				counts = append(counts, 5)
			}
			got, e := norm.Normalize(counts, log)
			want := slices.Clone(counts)
			for symbol := range want {
				want[symbol] /= 5
			}
			if e != api.OK || got.Log != log || !slices.Equal(got.Norm, want) {
				t.Errorf("Normalize of %d equal counts, %d = %v, %d", states, log, got, e)
			}
			rejects(t, append(counts, 5), log)
			rejects(t, append([]int{maxTotal - 5*states}, counts...), log)
			rejects(t, append(counts, 0, 0, 1), log)
		}
	}
}

// Many counts of 0 cost no more than a look at them.
func TestNormalizeOfSparseCounts(t *testing.T) {
	counts := make([]int, 1<<22)
	for i := range 512 {
		counts[i<<13] = 1
	}
	counts[1<<13] = 1 << 30
	got, e := norm.Normalize(counts, 9)
	if e != api.OK || len(got.Norm) != 511<<13+1 || got.Norm[0] != -1 || got.Norm[1<<13] != 1 || got.Norm[511<<13] != -1 {
		t.Errorf("Normalize of sparse counts: %d norms, %d", len(got.Norm), e)
	}
}

// The counts stay as they are, and so does what is behind them; the table is the caller's own.
func TestNormalizeSharesNothing(t *testing.T) {
	for _, counts := range chosen() {
		room := joined(counts, []int{-77, -78, -79})
		own := room[:len(counts)]
		first, e := norm.Normalize(own, 9)
		if e != api.OK {
			continue
		}
		kept := slices.Clone(first.Norm)
		for i := range first.Norm {
			first.Norm[i] = -500
		}
		_ = append(first.Norm, -501, -502)
		if !slices.Equal(room, joined(counts, []int{-77, -78, -79})) {
			t.Fatalf("Normalize(%v of %d, 9) shares memory with the counts, or changed them", brief(counts), len(counts))
		}
		again, e := norm.Normalize(own, 9)
		if e != api.OK || !slices.Equal(again.Norm, kept) {
			t.Fatalf("Normalize(%v of %d, 9) = %v, and then %v", brief(counts), len(counts), kept, again.Norm)
		}
		for i := range own {
			own[i] = 0
		}
		if !slices.Equal(again.Norm, kept) {
			t.Fatalf("the table of %v changed with the counts", brief(counts))
		}
	}
}

// P7.3

// recommended is the chapter's definition. Logarithms are found by doubling.
func recommended(counts []int, most int) int {
	bound := min(most, maxLog)
	if bound < 0 || !validCounts(counts) || used(counts) > 1<<bound {
		return -1
	}
	if used(counts) == 1 {
		return 0
	}
	up, down, sum := 0, 0, int(total(counts).Int64())
	for 1<<up < used(counts) {
		up++
	}
	for 1<<(down+1) <= sum {
		down++
	}
	return min(bound, max(up, down-1))
}

// recommends holds RecommendLog against what the test knows.
func recommends(t *testing.T, counts []int, most, want int) {
	t.Helper()
	if got := norm.RecommendLog(counts, most); got != want {
		t.Errorf("RecommendLog(%v of %d, %d) = %d, want %d", brief(counts), len(counts), most, got, want)
	}
}

func TestRecommendLogOfKnownCounts(t *testing.T) {
	recommends(t, []int{1, 1}, 9, 1)
	recommends(t, []int{2, 1}, 9, 1)
	recommends(t, []int{4, 3}, 9, 1)
	recommends(t, []int{4, 4}, 1, 1)
	recommends(t, []int{15, 1}, 9, 3)
	recommends(t, []int{1000, 1000}, 9, 9)
	recommends(t, []int{1000, 1000}, 8, 8)
	recommends(t, []int{1000, 1000}, 6, 6)
	recommends(t, []int{1000, 1000}, 20, 9)
	recommends(t, []int{1, 1, 1}, 1, -1)
	recommends(t, []int{1, 1, 1}, 2, 2)
	recommends(t, []int{1, 1}, 0, -1)
	recommends(t, filled(512, 1), 9, 9)
	recommends(t, filled(512, 1), 8, -1)
	recommends(t, filled(513, 1), 9, -1)
	recommends(t, filled(513, 1), math.MaxInt, -1)
	recommends(t, []int{maxTotal - 1, 1}, 9, 9)
}

// With two symbols and a total at or beside a power of two, the total decides.
func TestRecommendLogAtPowersOfTwo(t *testing.T) {
	for k := 2; k <= 40; k++ {
		recommends(t, []int{1<<k - 1, 1}, 9, min(9, k-1))
		recommends(t, []int{1<<k - 2, 1}, 9, min(9, max(1, k-2)))
		if k < 40 {
			recommends(t, []int{1 << k, 1}, 9, min(9, k-1))
		}
	}
	recommends(t, []int{maxTotal, 1}, 9, -1)
}

// With counts of 1, the number of symbols decides.
func TestRecommendLogOfManySymbols(t *testing.T) {
	for k := range 10 {
		recommends(t, filled(1<<k, 1), 9, k)
		if k > 0 {
			recommends(t, filled(1<<k, 1), k, k)
			recommends(t, filled(1<<k, 1), k-1, -1)
		}
		if k < 9 {
			recommends(t, filled(1<<k+1, 1), 9, k+1)
			recommends(t, filled(1<<k+1, 1), k, -1)
		}
	}
}

func TestRecommendLogOfOneSymbol(t *testing.T) {
	for _, counts := range [][]int{{1}, {2}, {1000}, {maxTotal}, {0, 7}, {7, 0}, {0, 0, maxTotal, 0}} {
		for most := range 12 {
			recommends(t, counts, most, 0)
		}
		recommends(t, counts, math.MaxInt, 0)
		recommends(t, counts, -1, -1)
		recommends(t, counts, math.MinInt, -1)
	}
}

func TestRecommendLogAgainstTheDefinition(t *testing.T) {
	for _, counts := range append(valid(), invalid()...) {
		for most := -2; most < 13; most++ {
			recommends(t, counts, most, recommended(counts, most))
		}
		for _, most := range great() {
			recommends(t, counts, most, recommended(counts, most))
		}
	}
}

func TestRecommendLogOfInvalidCounts(t *testing.T) {
	for _, counts := range invalid() {
		for most := -2; most < 13; most++ {
			recommends(t, counts, most, -1)
		}
	}
}

// What is recommended can be normalized.
func TestRecommendLogCanBeUsed(t *testing.T) {
	for _, counts := range valid() {
		for most := range 10 {
			log := norm.RecommendLog(counts, most)
			if (log >= 0) != fits(counts, most) || log > most {
				t.Errorf("RecommendLog(%v of %d, %d) = %d", brief(counts), len(counts), most, log)
			}
			if _, e := norm.Normalize(counts, log); log >= 0 && e != api.OK {
				t.Errorf("Normalize(%v of %d, %d) = %d, though it is recommended", brief(counts), len(counts), log, e)
			}
		}
	}
}

// P7.4

// each calls f with the normalized tables of many counts.
func each(t *testing.T, f func(counts []int, table api.Table)) {
	t.Helper()
	for _, counts := range valid() {
		for log := range 10 {
			table, e := norm.Normalize(counts, log)
			if (e == api.OK) != fits(counts, log) {
				t.Fatalf("Normalize(%v of %d, %d): %d", brief(counts), len(counts), log, e)
			}
			if e == api.OK {
				f(counts, table)
			}
		}
	}
}

func TestNormalizedTablesAreValid(t *testing.T) {
	each(t, func(counts []int, table api.Table) {
		n, log := len(table.Norm), table.Log
		for _, bound := range [][2]int{{n, log}, {n + 1, log}, {n, log + 1}, {math.MaxInt, math.MaxInt}} {
			if !validTable(table, bound[0], bound[1]) {
				t.Fatalf("the table %v of %v is not valid for %v", table, brief(counts), bound)
			}
			check(t, log, table.Norm, bound[0], bound[1], api.OK)
		}
		check(t, log, table.Norm, n-1, log, api.ErrTable)
		check(t, log, table.Norm, n, log-1, api.ErrTable)
	})
}

// states is the number of states of a symbol, which is 0 behind the last norm.
func states(table api.Table, symbol int) int {
	if symbol >= len(table.Norm) {
		return 0
	}
	return max(table.Norm[symbol], -table.Norm[symbol])
}

func TestStatesFollowTheCounts(t *testing.T) {
	each(t, func(counts []int, table api.Table) {
		order := make([]int, len(counts))
		for symbol := range order {
			order[symbol] = symbol
		}
		slices.SortFunc(order, func(a, b int) int { return counts[a] - counts[b] })
		below, equal := 0, 0
		for i, symbol := range order {
			if i > 0 && counts[symbol] > counts[order[i-1]] {
				below = equal
			}
			n := states(table, symbol)
			if n < below {
				t.Fatalf("%v: symbol %d has the count %d and %d states, a lower count has %d", table, symbol, counts[symbol], n, below)
			}
			equal = max(equal, n)
		}
	})
}

// States are less than the share plus 1: states * total < count * s + total.
func TestStatesStayNearTheShare(t *testing.T) {
	each(t, func(counts []int, table api.Table) {
		sum := int(total(counts).Int64())
		for symbol, count := range counts {
			n := states(table, symbol)
			if count > 0 && n*sum >= count<<table.Log+sum || (count > 0) != (n > 0) {
				t.Fatalf("%v: symbol %d has the count %d of %d and %d states", table, symbol, count, sum, n)
			}
			if rare := symbol < len(table.Norm) && table.Norm[symbol] < 0; rare != (count > 0 && count<<table.Log < sum) {
				t.Fatalf("%v: symbol %d has the count %d of %d", table, symbol, count, sum)
			}
		}
	})
}

// Counts that sum to the number of states, times a factor, are their own norms.
func TestWholeSharesAreTheNorms(t *testing.T) {
	source := rand.New(rand.NewSource(8))
	for log := range 10 {
		for range 100 {
			parts := make([]int, 1+source.Intn(40))
			for range 1 << log {
				parts[source.Intn(len(parts))]++
			}
			end := len(parts)
			for parts[end-1] == 0 {
				end--
			}
			for _, factor := range []int{1, 2, 3, 1000, maxTotal >> log} {
				counts := slices.Clone(parts)
				for symbol := range counts {
					counts[symbol] *= factor
				}
				got, e := norm.Normalize(counts, log)
				if e != api.OK || !slices.Equal(got.Norm, parts[:end]) {
					t.Fatalf("Normalize(%v, %d) = %v, %d, want the norms %v", counts, log, got, e, parts[:end])
				}
			}
		}
	}
}

func TestMultipliedCounts(t *testing.T) {
	each(t, func(counts []int, table api.Table) {
		most := maxTotal / int(total(counts).Int64())
		for _, factor := range []int{2, 3, 7, 1000, most} {
			if factor > most {
				continue
			}
			multiplied := slices.Clone(counts)
			for symbol := range multiplied {
				multiplied[symbol] *= factor
			}
			if got, e := norm.Normalize(multiplied, table.Log); e != api.OK || !norm.Equal(got, table) {
				t.Fatalf("Normalize(%v times %d, %d) = %v, %d, want %v", brief(counts), factor, table.Log, got, e, table)
			}
		}
	})
}
