package tally_test

import (
	"bytes"
	"iter"
	"math"
	"math/big"
	"math/rand"
	"slices"
	"testing"

	"portmanteau/api"
	"portmanteau/tally"
)

// The chapter's numbers, written out once more, so that a wrong one in the package shows.
const (
	maxCount  = 2147483648
	maxNumber = 4611686018427387903
)

// pair is what an iterator produces at a time.
type pair struct{ symbol, count int }

// pairs returns everything that an iterator produces.
func pairs(all iter.Seq2[int, int]) []pair {
	out := []pair{}
	for symbol, count := range all {
		out = append(out, pair{symbol, count})
	}
	return out
}

// logarithm is the chapter's definition, with integers of any size. n is at least 1.
func logarithm(n int) int {
	k, power := 0, big.NewInt(1)
	for {
		double := new(big.Int).Mul(power, big.NewInt(2))
		if double.Cmp(big.NewInt(int64(n))) > 0 {
			break
		}
		k, power = k+1, double
	}
	fraction := new(big.Int).Sub(big.NewInt(int64(n)), power)
	fraction.Mul(fraction, big.NewInt(256))
	fraction.Div(fraction, power)
	return 256*k + int(fraction.Int64())
}

// total is the sum of counts.
func total(counts []int) int {
	sum := 0
	for _, count := range counts {
		sum += count
	}
	return sum
}

// distinct is the number of symbols that are used.
func distinct(counts []int) int {
	many := 0
	for _, count := range counts {
		if count > 0 {
			many++
		}
	}
	return many
}

// cost is the chapter's definition, with integers of any size.
func cost(counts []int) *big.Int {
	sum, whole := new(big.Int), total(counts)
	for _, count := range counts {
		if count > 0 {
			bits := big.NewInt(int64(logarithm(whole) - logarithm(count)))
			sum.Add(sum, bits.Mul(bits, big.NewInt(int64(count))))
		}
	}
	return sum
}

// ordered is what Increasing produces: of the symbols that are left, the one that comes first, again and again.
func ordered(counts []int) []pair {
	left := map[int]int{}
	for symbol, count := range counts {
		if count > 0 {
			left[symbol] = count
		}
	}
	out := []pair{}
	for len(left) > 0 {
		first := pair{-1, 0}
		for symbol, count := range left {
			if first.symbol < 0 || count < first.count || count == first.count && symbol < first.symbol {
				first = pair{symbol, count}
			}
		}
		out = append(out, first)
		delete(left, first.symbol)
	}
	return out
}

// filled returns n counts that are all the same.
func filled(n, count int) []int { return slices.Repeat([]int{count}, n) }

// followed returns counts with so many zeros behind them.
func followed(counts []int, zeros int) []int {
	return append(slices.Clone(counts), make([]int, zeros)...)
}

// valid returns histograms of many kinds: those that the chapter names, and random ones.
func valid() [][]int {
	all := [][]int{
		nil, {}, {0}, {1}, {7}, {maxCount}, {0, 9}, {9, 0}, {0, 0, 0},
		{2, 0, 1}, {1, 3, 3}, {2, 1, 1}, {2, 0, 1, 2}, {5, 5, 5, 5}, {3, 2, 1}, {1, 2, 3},
		{maxCount, 1}, {1, maxCount}, {maxCount, 0, maxCount}, {maxCount - 1, maxCount}, {maxCount, maxCount - 1},
		filled(255, 0), filled(256, 0), filled(255, 1), filled(256, 1), filled(256, 3), filled(256, maxCount),
		followed([]int{4}, 255), append(filled(255, 0), 4), append(filled(255, 1), maxCount), append(filled(255, maxCount), 1),
	}
	source := rand.New(rand.NewSource(11))
	for range 300 {
		counts, most := make([]int, source.Intn(257)), 1+source.Intn(1<<source.Intn(32))
		for symbol := range counts {
			if source.Intn(3) > 0 {
				counts[symbol] = source.Intn(most + 1)
			}
		}
		all = append(all, counts)
	}
	return all
}

// invalid returns slices that are no histograms: a bad count at every place of lists of several lengths, and too many counts.
func invalid() [][]int {
	all := [][]int{filled(257, 0), filled(257, 1), filled(258, 0), filled(1000, 5), filled(65536, 0), append(filled(256, 0), -1)}
	for _, bad := range []int{-1, -2, -maxCount, math.MinInt32, math.MinInt, maxCount + 1, 2 * maxCount, 1 << 32, maxNumber, maxNumber + 1, math.MaxInt} {
		for _, n := range []int{1, 2, 3, 17, 255, 256} {
			for _, at := range []int{0, n / 2, n - 1} {
				for _, other := range []int{0, 1, maxCount} {
					counts := filled(n, other)
					counts[at] = bad
					all = append(all, counts)
				}
			}
		}
	}
	return all
}

// brief shows a histogram in a message.
func brief(counts []int) []int { return counts[:min(len(counts), 12)] }

// P5.1

func TestHistogramExample(t *testing.T) {
	counts := tally.Histogram([]byte{1, 2, 1}, []byte{1})
	want := make([]int, 256)
	want[1], want[2] = 3, 1
	if !slices.Equal(counts, want) {
		t.Errorf("Histogram([1 2 1], [1]) = %v", counts)
	}
}

func TestHistogramOfNoBytes(t *testing.T) {
	zeros := make([]int, 256)
	for _, parts := range [][][]byte{nil, {}, {nil}, {{}}, {nil, {}, nil}, make([][]byte, 100)} {
		if got := tally.Histogram(parts...); !slices.Equal(got, zeros) {
			t.Errorf("Histogram of %d empty slices = %v, want 256 zeros", len(parts), got)
		}
	}
}

func TestHistogramOfEveryByteValue(t *testing.T) {
	for x := range 256 {
		for n := 1; n < 5; n++ {
			want := make([]int, 256)
			want[x] = n
			if got := tally.Histogram(bytes.Repeat([]byte{byte(x)}, n)); !slices.Equal(got, want) {
				t.Fatalf("Histogram of %d times %d = %v", n, x, got)
			}
		}
	}
}

func TestHistogramOfManyParts(t *testing.T) {
	source := rand.New(rand.NewSource(12))
	for range 200 {
		parts := make([][]byte, source.Intn(6))
		for i := range parts {
			parts[i] = make([]byte, source.Intn(2000))
			source.Read(parts[i])
		}
		whole, got := bytes.Join(parts, nil), tally.Histogram(parts...)
		if len(got) != 256 {
			t.Fatalf("Histogram has %d counts", len(got))
		}
		for x, count := range got {
			if want := bytes.Count(whole, []byte{byte(x)}); count != want {
				t.Fatalf("Histogram: %d occurs %d times, want %d", x, count, want)
			}
		}
	}
}

// More than MaxCount bytes of one value, from a slice that is passed again and again; another value beside it is counted on.
func TestHistogramSaturates(t *testing.T) {
	piece := make([]byte, 1<<26)
	parts := slices.Repeat([][]byte{piece}, maxCount/len(piece))
	parts = append(parts, []byte{0, 0, 0, 9, 9})
	want := make([]int, 256)
	want[0], want[9] = maxCount, 2
	if got := tally.Histogram(parts...); !slices.Equal(got, want) {
		t.Errorf("Histogram of 2^31 + 3 zero bytes: %d, and %d of another, want 2^31 and 2", got[0], got[9])
	}
}

// A result is the caller's own, and the arguments stay as they are.
func TestHistogramSharesNothing(t *testing.T) {
	a, b := []byte("some bytes"), []byte("and others")
	first := tally.Histogram(a, b)
	kept := slices.Clone(first)
	for i := range first {
		first[i] = -5
	}
	_ = append(first, 1, 2, 3)
	if again := tally.Histogram(a, b); !slices.Equal(again, kept) {
		t.Errorf("Histogram = %v, and then %v", kept, again)
	}
	if string(a) != "some bytes" || string(b) != "and others" {
		t.Errorf("Histogram changed its arguments to %q, %q", a, b)
	}
}

func TestIsRun(t *testing.T) {
	for x := range 256 {
		for n := 1; n < 20; n++ {
			b := bytes.Repeat([]byte{byte(x)}, n)
			if got, is := tally.IsRun(b); got != byte(x) || !is {
				t.Fatalf("IsRun(% x) = %d, %v, want %d, true", b, got, is, x)
			}
		}
	}
}

func TestIsRunOfNoBytes(t *testing.T) {
	for _, b := range [][]byte{nil, {}, []byte("777")[:0]} {
		if got, is := tally.IsRun(b); got != 0 || is {
			t.Errorf("IsRun of no bytes = %d, %v, want 0, false", got, is)
		}
	}
}

// One byte differs, at every place.
func TestIsRunOfUnequalBytes(t *testing.T) {
	for n := 2; n < 40; n++ {
		for at := range n {
			for _, x := range []byte{0, 6, 8, 255} {
				b := bytes.Repeat([]byte{7}, n)
				b[at] = x
				if got, is := tally.IsRun(b); got != 0 || is {
					t.Fatalf("IsRun(% x) = %d, %v, want 0, false", b, got, is)
				}
			}
		}
	}
	if got, is := tally.IsRun([]byte{7, 8, 7, 8}); got != 0 || is {
		t.Errorf("IsRun([7 8 7 8]) = %d, %v, want 0, false", got, is)
	}
}

// What is beside the slice does not count.
func TestIsRunOfAPieceOfASlice(t *testing.T) {
	if got, is := tally.IsRun([]byte{1, 7, 7, 7, 2}[1:4]); got != 7 || !is {
		t.Errorf("IsRun of a piece = %d, %v, want 7, true", got, is)
	}
}

// P5.2

func TestCheckTotalDistinct(t *testing.T) {
	for _, counts := range valid() {
		if e := tally.Check(counts); e != api.OK {
			t.Errorf("Check(%v of %d) = %d, want OK", brief(counts), len(counts), e)
		}
		if got, e := tally.Total(counts); got != total(counts) || e != api.OK {
			t.Errorf("Total(%v of %d) = %d, %d, want %d", brief(counts), len(counts), got, e, total(counts))
		}
		if got, e := tally.Distinct(counts); got != distinct(counts) || e != api.OK {
			t.Errorf("Distinct(%v of %d) = %d, %d, want %d", brief(counts), len(counts), got, e, distinct(counts))
		}
	}
}

func TestKnownTotals(t *testing.T) {
	for _, x := range []struct {
		counts   []int
		total    int
		distinct int
	}{
		{nil, 0, 0},
		{[]int{}, 0, 0},
		{[]int{0}, 0, 0},
		{[]int{2, 0, 1}, 3, 2},
		{[]int{maxCount}, 2147483648, 1},
		{filled(256, 1), 256, 256},
		{filled(256, maxCount), 549755813888, 256},
		{append(filled(255, 0), maxCount), 2147483648, 1},
	} {
		if got, e := tally.Total(x.counts); got != x.total || e != api.OK {
			t.Errorf("Total(%v of %d) = %d, %d, want %d", brief(x.counts), len(x.counts), got, e, x.total)
		}
		if got, e := tally.Distinct(x.counts); got != x.distinct || e != api.OK {
			t.Errorf("Distinct(%v of %d) = %d, %d, want %d", brief(x.counts), len(x.counts), got, e, x.distinct)
		}
	}
}

func TestInvalidHistograms(t *testing.T) {
	for _, counts := range invalid() {
		if e := tally.Check(counts); e != api.ErrArg {
			t.Errorf("Check(%v of %d) = %d, want ErrArg", brief(counts), len(counts), e)
		}
		for name, f := range map[string]func([]int) (int, api.Errno){"Total": tally.Total, "Distinct": tally.Distinct, "MostFrequent": tally.MostFrequent, "Cost": tally.Cost} {
			if got, e := f(counts); got != 0 || e != api.ErrArg {
				t.Errorf("%s(%v of %d) = %d, %d, want 0, ErrArg", name, brief(counts), len(counts), got, e)
			}
		}
	}
}

// P5.3

func TestMostFrequent(t *testing.T) {
	for _, x := range []struct {
		counts []int
		want   int
	}{
		{[]int{1}, 0},
		{[]int{0, 1}, 1},
		{[]int{1, 3, 3}, 1},
		{[]int{3, 1, 3}, 0},
		{[]int{0, 0, 5, 5, 5}, 2},
		{[]int{3, 2, 1}, 0},
		{[]int{1, 2, 3}, 2},
		{[]int{1, 3, 2, 3}, 1},
		{[]int{maxCount - 1, maxCount, maxCount}, 1},
		{filled(256, 1), 0},
		{filled(256, maxCount), 0},
		{append(filled(255, 1), 2), 255},
		{append(filled(255, 0), 1), 255},
	} {
		if got, e := tally.MostFrequent(x.counts); got != x.want || e != api.OK {
			t.Errorf("MostFrequent(%v of %d) = %d, %d, want %d", brief(x.counts), len(x.counts), got, e, x.want)
		}
	}
}

func TestMostFrequentOfMany(t *testing.T) {
	for _, counts := range valid() {
		got, e := tally.MostFrequent(counts)
		if distinct(counts) == 0 {
			if got != 0 || e != api.ErrNone {
				t.Errorf("MostFrequent(%v of %d) = %d, %d, want 0, ErrNone", brief(counts), len(counts), got, e)
			}
			continue
		}
		greatest := slices.Max(counts)
		if want := slices.Index(counts, greatest); got != want || e != api.OK {
			t.Errorf("MostFrequent(%v of %d) = %d, %d, want %d", brief(counts), len(counts), got, e, want)
		}
	}
}

// An invalid histogram without a used symbol is invalid first.
func TestInvalidBeforeNone(t *testing.T) {
	for _, counts := range [][]int{{-1}, {0, -1}, {0, 0, math.MinInt}, filled(257, 0)} {
		if got, e := tally.MostFrequent(counts); got != 0 || e != api.ErrArg {
			t.Errorf("MostFrequent(%v of %d) = %d, %d, want 0, ErrArg", brief(counts), len(counts), got, e)
		}
	}
}

func TestAdd(t *testing.T) {
	for _, x := range []struct{ a, b, want []int }{
		{nil, nil, nil},
		{nil, []int{}, nil},
		{nil, []int{0}, []int{0}},
		{[]int{1, 2}, []int{5}, []int{6, 2}},
		{[]int{1, 2}, nil, []int{1, 2}},
		{[]int{1, 2, 0, 0}, []int{0, 3}, []int{1, 5, 0, 0}},
		{[]int{maxCount}, []int{0}, []int{maxCount}},
		{[]int{maxCount - 1}, []int{1}, []int{maxCount}},
		{[]int{0, maxCount, 4}, []int{maxCount}, []int{maxCount, maxCount, 4}},
		{[]int{maxCount / 2, 1}, []int{maxCount / 2, 2}, []int{maxCount, 3}},
		{filled(256, 1), []int{7}, append([]int{8}, filled(255, 1)...)},
		{filled(256, maxCount), filled(256, 0), filled(256, maxCount)},
	} {
		for _, y := range [][2][]int{{x.a, x.b}, {x.b, x.a}} {
			if got, e := tally.Add(y[0], y[1]); !slices.Equal(got, x.want) || e != api.OK {
				t.Errorf("Add(%v, %v) = %v, %d, want %v", brief(y[0]), brief(y[1]), brief(got), e, brief(x.want))
			}
		}
	}
}

// wantSum compares a sum with the definition, in which the counts of the shorter histogram that are omitted are 0.
func wantSum(t *testing.T, a, b []int) {
	t.Helper()
	n := max(len(a), len(b))
	longA, longB := followed(a, n-len(a)), followed(b, n-len(b))
	want, e := make([]int, n), api.OK
	for symbol := range want {
		want[symbol] = longA[symbol] + longB[symbol]
		if want[symbol] > maxCount {
			e = api.ErrArg
		}
	}
	got, gotE := tally.Add(a, b)
	if gotE != e || e == api.OK && !slices.Equal(got, want) || e != api.OK && len(got) > 0 {
		t.Fatalf("Add(%v of %d, %v of %d) = %v, %d, want %v, %d", brief(a), len(a), brief(b), len(b), brief(got), gotE, brief(want), e)
	}
}

func TestAddOfMany(t *testing.T) {
	all := valid()
	for _, a := range all[:60] {
		for _, b := range all {
			wantSum(t, a, b)
			wantSum(t, b, a)
		}
	}
}

// A sum that exceeds MaxCount, at every place.
func TestAddExceedsMaxCount(t *testing.T) {
	for _, n := range []int{1, 2, 50, 256} {
		for at := range n {
			for _, x := range [][2]int{{maxCount, 1}, {1, maxCount}, {maxCount, maxCount}, {maxCount/2 + 1, maxCount / 2}} {
				a, b := filled(n, 1), make([]int, at+1)
				a[at], b[at] = x[0], x[1]
				for _, y := range [][2][]int{{a, b}, {b, a}} {
					if got, e := tally.Add(y[0], y[1]); len(got) > 0 || e != api.ErrArg {
						t.Fatalf("Add of %v at %d of %d = %v, %d, want ErrArg", x, at, n, brief(got), e)
					}
				}
			}
		}
	}
}

func TestAddOfInvalidHistograms(t *testing.T) {
	for _, bad := range invalid() {
		for _, other := range [][]int{nil, {1}, {maxCount, 3}, filled(256, 0), filled(256, maxCount), bad} {
			for _, x := range [][2][]int{{bad, other}, {other, bad}} {
				if got, e := tally.Add(x[0], x[1]); len(got) > 0 || e != api.ErrArg {
					t.Fatalf("Add(%v of %d, %v of %d) = %v, %d, want ErrArg", brief(x[0]), len(x[0]), brief(x[1]), len(x[1]), brief(got), e)
				}
			}
		}
	}
}

// A count below 0 does not become valid by what is added to it, nor one that is too great.
func TestAddDoesNotMakeValid(t *testing.T) {
	for _, x := range [][2][]int{{{-1}, {1}}, {{-3, 5}, {4, 1}}, {{maxCount + 1}, {-1}}, {{math.MaxInt}, {math.MinInt}}, {{math.MaxInt}, {math.MaxInt}}, {{math.MinInt}, {math.MinInt}}} {
		if got, e := tally.Add(x[0], x[1]); len(got) > 0 || e != api.ErrArg {
			t.Errorf("Add(%v, %v) = %v, %d, want ErrArg", x[0], x[1], got, e)
		}
	}
}

// The sum is the caller's own: what is done to it or to an argument does not show elsewhere, and room behind an argument is not written.
func TestAddSharesNothing(t *testing.T) {
	for _, n := range []int{0, 1, 3, 4} {
		for _, m := range []int{0, 1, 3, 4} {
			roomA, roomB := []int{1, 2, 3, 4, 90, 91}, []int{5, 6, 7, 8, 92, 93}
			a, b := roomA[:n], roomB[:m]
			got, e := tally.Add(a, b)
			if e != api.OK {
				t.Fatalf("Add(%v, %v) = %v, %d", a, b, got, e)
			}
			kept := slices.Clone(got)
			for i := range got {
				got[i] = -7
			}
			_ = append(got, -8, -9)
			if !slices.Equal(roomA, []int{1, 2, 3, 4, 90, 91}) || !slices.Equal(roomB, []int{5, 6, 7, 8, 92, 93}) {
				t.Errorf("Add of %d and %d counts changed its arguments to %v, %v", n, m, roomA, roomB)
			}
			if again, _ := tally.Add(a, b); !slices.Equal(again, kept) {
				t.Errorf("Add of %d and %d counts = %v, and then %v", n, m, kept, again)
			}
		}
	}
}

func TestAddToItself(t *testing.T) {
	a := []int{1, 0, 3}
	if got, e := tally.Add(a, a); !slices.Equal(got, []int{2, 0, 6}) || e != api.OK || !slices.Equal(a, []int{1, 0, 3}) {
		t.Errorf("Add of %v to itself = %v, %d", a, got, e)
	}
}

// P5.4

func TestKnownLogarithms(t *testing.T) {
	for n, want := range map[int]int{
		1: 0, 2: 256, 3: 384, 4: 512, 5: 576, 6: 640, 7: 704, 8: 768, 9: 800,
		255: 2046, 256: 2048, 257: 2049, 511: 2303, 512: 2304, 513: 2304, 514: 2305, 515: 2305, 1023: 2559, 1024: 2560,
		maxCount - 1: 7935, maxCount: 7936, maxCount + 1: 7936, 1 << 40: 10240, 3 << 39: 10368,
		1<<61 - 1: 15615, 1 << 61: 15616, 3 << 60: 15744, maxNumber - 1: 15871, maxNumber: 15871,
	} {
		if got, e := tally.Log2(n); got != want || e != api.OK {
			t.Errorf("Log2(%d) = %d, %d, want %d", n, got, e, want)
		}
	}
}

func TestLog2OfSmallIntegers(t *testing.T) {
	last := -1
	for n := 1; n <= 1<<13; n++ {
		got, e := tally.Log2(n)
		if got != logarithm(n) || e != api.OK {
			t.Fatalf("Log2(%d) = %d, %d, want %d", n, got, e, logarithm(n))
		}
		if got < last {
			t.Fatalf("Log2(%d) = %d is below that of %d", n, got, n-1)
		}
		last = got
	}
}

// The powers of two, their neighbours, and the neighbours of each of the 256 places at which the logarithm grows.
func TestLog2OfGreatIntegers(t *testing.T) {
	check := func(n int) {
		if n < 1 || n > maxNumber {
			return
		}
		if got, e := tally.Log2(n); got != logarithm(n) || e != api.OK {
			t.Fatalf("Log2(%d) = %d, %d, want %d", n, got, e, logarithm(n))
		}
	}
	for k := range 62 {
		for part := range 256 {
			step := new(big.Int).Lsh(big.NewInt(int64(part)), uint(k))
			place := 1<<k + int(step.Rsh(step, 8).Int64())
			for d := -2; d <= 2; d++ {
				check(place + d)
			}
		}
	}
	source := rand.New(rand.NewSource(13))
	for range 2000 {
		check(1 + source.Intn(1<<(1+source.Intn(61))))
	}
	check(maxNumber)
}

func TestLog2OutOfRange(t *testing.T) {
	for _, n := range []int{0, -1, -2, -256, -maxCount, -maxNumber, math.MinInt, math.MinInt + 1, maxNumber + 1, maxNumber + 2, 3 << 61, math.MaxInt} {
		if got, e := tally.Log2(n); got != 0 || e != api.ErrArg {
			t.Errorf("Log2(%d) = %d, %d, want 0, ErrArg", n, got, e)
		}
	}
}

func TestKnownCosts(t *testing.T) {
	for _, x := range []struct {
		counts []int
		want   int
	}{
		{nil, 0},
		{[]int{}, 0},
		{[]int{0}, 0},
		{[]int{0, 9}, 0},
		{[]int{maxCount}, 0},
		{[]int{1, 1}, 512},
		{[]int{2, 1, 1}, 1536},
		{[]int{1, 2}, 384 + 2*128},
		{[]int{3, 5}, 3*(768-384) + 5*(768-576)},
		{[]int{maxCount, 1}, 7936},
		{[]int{maxCount, maxCount}, 2 * maxCount * 256},
		{filled(256, maxCount), 1125899906842624},
	} {
		if got, e := tally.Cost(x.counts); got != x.want || e != api.OK {
			t.Errorf("Cost(%v of %d) = %d, %d, want %d", brief(x.counts), len(x.counts), got, e, x.want)
		}
	}
}

func TestCost(t *testing.T) {
	for _, counts := range valid() {
		got, e := tally.Cost(counts)
		if want := cost(counts); big.NewInt(int64(got)).Cmp(want) != 0 || e != api.OK {
			t.Errorf("Cost(%v of %d) = %d, %d, want %d", brief(counts), len(counts), got, e, want)
		}
	}
}

// P5.5

func TestIncreasingExample(t *testing.T) {
	got := pairs(tally.Increasing([]int{2, 0, 1, 2}))
	if !slices.Equal(got, []pair{{2, 1}, {0, 2}, {3, 2}}) {
		t.Errorf("Increasing([2 0 1 2]) = %v", got)
	}
}

func TestIncreasing(t *testing.T) {
	for _, counts := range valid() {
		if got, want := pairs(tally.Increasing(counts)), ordered(counts); !slices.Equal(got, want) {
			t.Errorf("Increasing(%v of %d) = %v, want %v", brief(counts), len(counts), got, want)
		}
	}
}

// Many symbols that share a few counts: an order that is not stable shows.
func TestIncreasingAmongEqualCounts(t *testing.T) {
	source := rand.New(rand.NewSource(14))
	for range 100 {
		counts := make([]int, 256)
		for symbol := range counts {
			counts[symbol] = source.Intn(4)
		}
		if got, want := pairs(tally.Increasing(counts)), ordered(counts); !slices.Equal(got, want) {
			t.Fatalf("Increasing(%v) = %v, want %v", counts, got, want)
		}
	}
}

func TestIncreasingOverNothing(t *testing.T) {
	for _, counts := range append(invalid(), nil, []int{}, []int{0}, filled(256, 0)) {
		all := tally.Increasing(counts)
		if all == nil {
			t.Fatalf("Increasing(%v of %d) = nil", brief(counts), len(counts))
		}
		if got := pairs(all); len(got) > 0 {
			t.Fatalf("Increasing(%v of %d) = %v, want nothing", brief(counts), len(counts), got)
		}
	}
}

// The histogram is changed behind the call, and while a loop runs; invalid counts become valid too late.
func TestIncreasingOfAChangedHistogram(t *testing.T) {
	counts := []int{2, 0, 1, 2}
	want := ordered(counts)
	all := tally.Increasing(counts)
	counts[0], counts[1], counts[2] = 9, 1, 0
	if got := pairs(all); !slices.Equal(got, want) {
		t.Errorf("after a change: %v, want %v", got, want)
	}
	got := []pair{}
	for symbol, count := range all {
		got = append(got, pair{symbol, count})
		for i := range counts {
			counts[i] = -1
		}
	}
	if !slices.Equal(got, want) {
		t.Errorf("changed in the loop: %v, want %v", got, want)
	}
	all = tally.Increasing(counts)
	counts[0], counts[1], counts[2], counts[3] = 1, 2, 3, 4
	if got := pairs(all); len(got) > 0 {
		t.Errorf("invalid when it was called: %v, want nothing", got)
	}
}

// The loop is left behind every number of symbols, and the iterator is used again each time.
func TestIncreasingLeftEarly(t *testing.T) {
	for _, counts := range [][]int{{4}, {2, 0, 1, 2}, filled(256, 1), filled(20, maxCount)} {
		all, want := tally.Increasing(counts), ordered(counts)
		for n := 1; n <= len(want); n++ {
			got := []pair{}
			for symbol, count := range all {
				got = append(got, pair{symbol, count})
				if len(got) == n {
					break
				}
			}
			if !slices.Equal(got, want[:n]) {
				t.Fatalf("Increasing(%v of %d) left after %d = %v, want %v", brief(counts), len(counts), n, got, want[:n])
			}
		}
		for range 2 {
			if got := pairs(all); !slices.Equal(got, want) {
				t.Fatalf("Increasing(%v of %d) again = %v, want %v", brief(counts), len(counts), got, want)
			}
		}
	}
}

// A loop inside a loop over the same iterator: each has its own place.
func TestIncreasingNested(t *testing.T) {
	counts := []int{5, 1, 0, 3, 1}
	all, want, outer := tally.Increasing(counts), ordered(counts), []pair{}
	for symbol, count := range all {
		outer = append(outer, pair{symbol, count})
		if inner := pairs(all); !slices.Equal(inner, want) {
			t.Fatalf("inner loop: %v, want %v", inner, want)
		}
	}
	if !slices.Equal(outer, want) {
		t.Errorf("outer loop: %v, want %v", outer, want)
	}
}

// Nothing writes its argument or the room behind it.
func TestArgumentsStay(t *testing.T) {
	for _, counts := range append(valid(), invalid()...) {
		room := append(slices.Clone(counts), 77, 78)
		kept := slices.Clone(room)
		piece := room[:len(counts)]
		tally.Check(piece)
		tally.Total(piece)
		tally.Distinct(piece)
		tally.MostFrequent(piece)
		tally.Add(piece, piece)
		tally.Cost(piece)
		pairs(tally.Increasing(piece))
		if !slices.Equal(room, kept) {
			t.Fatalf("%v of %d became %v", brief(kept), len(counts), brief(room))
		}
	}
}

// P5.6

func TestHistogramOfAConcatenation(t *testing.T) {
	source := rand.New(rand.NewSource(15))
	for range 200 {
		parts, sum := make([][]byte, source.Intn(8)), []int(nil)
		for i := range parts {
			parts[i] = make([]byte, source.Intn(500))
			for j := range parts[i] {
				parts[i][j] = byte(source.Intn(1 + source.Intn(256)))
			}
			var e api.Errno
			if sum, e = tally.Add(sum, tally.Histogram(parts[i])); e != api.OK {
				t.Fatalf("Add = %d", e)
			}
		}
		whole := tally.Histogram(bytes.Join(parts, nil))
		if got := tally.Histogram(parts...); !slices.Equal(got, whole) {
			t.Fatalf("the histogram of %d parts is %v, that of their concatenation %v", len(parts), got, whole)
		}
		if len(parts) > 0 && !slices.Equal(sum, whole) {
			t.Fatalf("the sum of %d histograms is %v, the histogram of the concatenation %v", len(parts), sum, whole)
		}
	}
}

// wantZeroExactly compares whether the cost is 0 with the two reasons for it.
func wantZeroExactly(t *testing.T, counts []int) {
	t.Helper()
	got, e := tally.Cost(counts)
	if got < 0 || e != api.OK {
		t.Fatalf("Cost(%v of %d) = %d, %d", brief(counts), len(counts), got, e)
	}
	alike := true
	for _, count := range counts {
		if count > 0 && logarithm(count) != logarithm(total(counts)) {
			alike = false
		}
	}
	if zero := distinct(counts) <= 1 || alike; zero != (got == 0) {
		t.Fatalf("Cost(%v of %d) = %d, want that it is 0: %v", brief(counts), len(counts), got, zero)
	}
}

func TestCostIsZeroExactly(t *testing.T) {
	for _, counts := range valid() {
		wantZeroExactly(t, counts)
	}
	for a := range 16 {
		for b := range 16 {
			for c := range 4 {
				wantZeroExactly(t, []int{a, b, c})
			}
		}
	}
	for at := range 256 {
		for _, count := range []int{1, 2, 3, 1000, maxCount - 1, maxCount} {
			counts := make([]int, 256)
			counts[at] = count
			wantZeroExactly(t, counts)
			counts[255-at] += count / 1000
			if counts[255-at] <= maxCount {
				wantZeroExactly(t, counts)
			}
		}
	}
}

// Unused symbols behind, ahead and between, and any order: the cost stays.
func TestCostOfTheSameCountsElsewhere(t *testing.T) {
	source := rand.New(rand.NewSource(16))
	for _, counts := range valid() {
		want, e := tally.Cost(counts)
		if e != api.OK {
			t.Fatalf("Cost(%v of %d) = %d", brief(counts), len(counts), e)
		}
		used := slices.DeleteFunc(slices.Clone(counts), func(count int) bool { return count == 0 })
		spread := make([]int, 256)
		for i, symbol := range source.Perm(256)[:len(used)] {
			spread[symbol] = used[i]
		}
		turned := slices.Clone(counts)
		slices.Reverse(turned)
		for _, other := range [][]int{used, spread, turned, followed(counts, 256-len(counts)), append(make([]int, 256-len(used)), used...)} {
			if got, e := tally.Cost(other); got != want || e != api.OK {
				t.Fatalf("Cost(%v of %d) = %d, that of %v of %d = %d, %d", brief(counts), len(counts), want, brief(other), len(other), got, e)
			}
		}
	}
}

func TestCostOfEqualPowersOfTwo(t *testing.T) {
	for a := range 9 {
		for b := range 32 {
			want := 256 * a * (1 << (a + b))
			if got, e := tally.Cost(filled(1<<a, 1<<b)); got != want || e != api.OK {
				t.Errorf("Cost of 2^%d symbols that occur 2^%d times = %d, %d, want %d", a, b, got, e, want)
			}
		}
	}
}

// The chapter's table

func TestExamples(t *testing.T) {
	if got, e := tally.Total([]int{2, 0, 1}); got != 3 || e != api.OK {
		t.Errorf("Total([2 0 1]) = %d, %d", got, e)
	}
	if got, e := tally.Distinct([]int{2, 0, 1}); got != 2 || e != api.OK {
		t.Errorf("Distinct([2 0 1]) = %d, %d", got, e)
	}
	if got, e := tally.MostFrequent([]int{1, 3, 3}); got != 1 || e != api.OK {
		t.Errorf("MostFrequent([1 3 3]) = %d, %d", got, e)
	}
	if got, e := tally.MostFrequent([]int{0}); got != 0 || e != api.ErrNone {
		t.Errorf("MostFrequent([0]) = %d, %d", got, e)
	}
	if e := tally.Check([]int{-1}); e != api.ErrArg {
		t.Errorf("Check([-1]) = %d", e)
	}
	if got, e := tally.Add([]int{1, 2}, []int{5}); !slices.Equal(got, []int{6, 2}) || e != api.OK {
		t.Errorf("Add([1 2], [5]) = %v, %d", got, e)
	}
	if got, e := tally.Log2(0); got != 0 || e != api.ErrArg {
		t.Errorf("Log2(0) = %d, %d", got, e)
	}
	for n, want := range map[int]int{1: 0, 2: 256, 3: 384, 5: 576} {
		if got, e := tally.Log2(n); got != want || e != api.OK {
			t.Errorf("Log2(%d) = %d, %d", n, got, e)
		}
	}
	if got, e := tally.Cost([]int{2, 1, 1}); got != 1536 || e != api.OK {
		t.Errorf("Cost([2 1 1]) = %d, %d", got, e)
	}
	if got, e := tally.Cost([]int{0, 9}); got != 0 || e != api.OK {
		t.Errorf("Cost([0 9]) = %d, %d", got, e)
	}
	for _, x := range []struct {
		b    []byte
		want byte
		is   bool
	}{{[]byte{7, 7}, 7, true}, {[]byte{7, 8}, 0, false}, {[]byte{}, 0, false}} {
		if got, is := tally.IsRun(x.b); got != x.want || is != x.is {
			t.Errorf("IsRun(%v) = %d, %v", x.b, got, is)
		}
	}
}
