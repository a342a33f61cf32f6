package limit_test

import (
	"iter"
	"math"
	"math/big"
	"math/bits"
	"math/rand"
	"slices"
	"testing"

	"portmanteau/api"
	"portmanteau/limit"
)

// wantCode holds lengths against what every optimal code of a histogram is: that of its used symbols, complete, of that cost, and not above most.
func wantCode(t *testing.T, name string, counts, lengths []int, most, cost int) {
	t.Helper()
	if len(lengths) != len(counts) || !lengthsValid(lengths) {
		t.Fatalf("%s(%v of %d) = %v of %d, which are no code lengths for these counts", name, brief(counts), len(counts), brief(lengths), len(lengths))
	}
	for symbol, length := range lengths {
		if (length > 0) != (counts[symbol] > 0) || length > most {
			t.Errorf("%s(%v of %d): symbol %d occurs %d times and has length %d, at most %d", name, brief(counts), len(counts), symbol, counts[symbol], length, most)
		}
	}
	if kraftSum(lengths).Cmp(unit()) != 0 {
		t.Errorf("%s(%v of %d, %d) = %v: not complete", name, brief(counts), len(counts), most, lengths)
	}
	if got, e := costOf(counts, lengths); e != api.OK || got.Cmp(big.NewInt(int64(cost))) != 0 {
		t.Errorf("%s(%v of %d, %d) = %v: the cost is %v, want %d", name, brief(counts), len(counts), most, lengths, got, cost)
	}
}

// wantLimited holds Lengths and MinCost against the minimal cost.
func wantLimited(t *testing.T, counts []int, most, cost int) {
	t.Helper()
	lengths, e := limit.Lengths(counts, most)
	if e != api.OK {
		t.Fatalf("Lengths(%v of %d, %d): %d", brief(counts), len(counts), most, e)
	}
	wantCode(t, "Lengths", counts, lengths, most, cost)
	if got, e := limit.MinCost(counts, most); got != cost || e != api.OK {
		t.Errorf("MinCost(%v of %d, %d) = %d, %d, want %d", brief(counts), len(counts), most, got, e, cost)
	}
}

// wantLimitedError asks Lengths and MinCost for what there is not.
func wantLimitedError(t *testing.T, counts []int, most int, want api.Errno) {
	t.Helper()
	if lengths, e := limit.Lengths(counts, most); len(lengths) != 0 || e != want {
		t.Errorf("Lengths(%v of %d, %d) = %v of %d, %d, want error %d", brief(counts), len(counts), most, brief(lengths), len(lengths), e, want)
	}
	if cost, e := limit.MinCost(counts, most); cost != 0 || e != want {
		t.Errorf("MinCost(%v of %d, %d) = %d, %d, want error %d", brief(counts), len(counts), most, cost, e, want)
	}
}

// wantUnlimited holds Unlimited against the minimal cost, and returns the greatest length.
func wantUnlimited(t *testing.T, counts []int) int {
	t.Helper()
	lengths, e := limit.Unlimited(counts)
	if e != api.OK {
		t.Fatalf("Unlimited(%v of %d): %d", brief(counts), len(counts), e)
	}
	wantCode(t, "Unlimited", counts, lengths, maxFree, huffman(counts))
	return slices.Max(lengths)
}

// wantUnlimitedError asks Unlimited for what there is not.
func wantUnlimitedError(t *testing.T, counts []int, want api.Errno) {
	t.Helper()
	if lengths, e := limit.Unlimited(counts); len(lengths) != 0 || e != want {
		t.Errorf("Unlimited(%v of %d) = %v of %d, %d, want error %d", brief(counts), len(counts), brief(lengths), len(lengths), e, want)
	}
}

// wantUniformError asks Uniform for what there is not.
func wantUniformError(t *testing.T, n, most int, want api.Errno) {
	t.Helper()
	if lengths, e := limit.Uniform(n, most); len(lengths) != 0 || e != want {
		t.Errorf("Uniform(%d, %d) = %v of %d, %d, want error %d", n, most, brief(lengths), len(lengths), e, want)
	}
}

// wantCost holds Cost against the chapter's definition, and returns its error.
func wantCost(t *testing.T, counts, lengths []int) api.Errno {
	t.Helper()
	want, wantE := costOf(counts, lengths)
	got, e := limit.Cost(counts, lengths)
	if big.NewInt(int64(got)).Cmp(want) != 0 || e != wantE {
		t.Errorf("Cost(%v of %d, %v of %d) = %d, %d, want %v, %d", brief(counts), len(counts), brief(lengths), len(lengths), got, e, want, wantE)
	}
	return e
}

// wantKraft asks Kraft.
func wantKraft(t *testing.T, lengths []int, fits, complete bool) {
	t.Helper()
	if f, c := limit.Kraft(lengths); f != fits || c != complete {
		t.Errorf("Kraft(%v of %d) = %t %t, want %t %t", brief(lengths), len(lengths), f, c, fits, complete)
	}
}

// wantMaxLength asks MaxLength.
func wantMaxLength(t *testing.T, lengths []int, want int, wantE api.Errno) {
	t.Helper()
	if got, e := limit.MaxLength(lengths); got != want || e != wantE {
		t.Errorf("MaxLength(%v of %d) = %d, %d, want %d, %d", brief(lengths), len(lengths), got, e, want, wantE)
	}
}

// pair is what an iterator produces at a time.
type pair struct{ length, many int }

// pairs returns everything that an iterator produces.
func pairs(all iter.Seq2[int, int]) []pair {
	out := []pair{}
	for length, many := range all {
		out = append(out, pair{length, many})
	}
	return out
}

// counted is what LengthCounts produces for code lengths: the lengths up to the greatest, each looked for among all of them.
func counted(lengths []int) []pair {
	out := []pair{}
	for length := 1; slices.ContainsFunc(lengths, func(n int) bool { return n >= length }); length++ {
		many := 0
		for _, n := range lengths {
			if n == length {
				many++
			}
		}
		out = append(out, pair{length, many})
	}
	return out
}

// wantPairs goes through LengthCounts.
func wantPairs(t *testing.T, lengths []int, want []pair) {
	t.Helper()
	if got := pairs(limit.LengthCounts(lengths)); !slices.Equal(got, want) {
		t.Errorf("LengthCounts(%v of %d) = %v, want %v", brief(lengths), len(lengths), got, want)
	}
}

// The table of examples

func TestExamplesOfHistograms(t *testing.T) {
	counts := []int{5, 2, 1, 1}
	lengths, e := limit.Lengths(counts, 3)
	if e != api.OK || !slices.Equal(lengths, []int{1, 2, 3, 3}) {
		t.Errorf("Lengths([5 2 1 1], 3) = %v, %d", lengths, e)
	}
	if cost, e := limit.Cost(counts, lengths); cost != 15 || e != api.OK {
		t.Errorf("Cost([5 2 1 1], %v) = %d, %d", lengths, cost, e)
	}
	if cost, e := limit.MinCost(counts, 2); cost != 18 || e != api.OK {
		t.Errorf("MinCost([5 2 1 1], 2) = %d, %d", cost, e)
	}
	wantLimitedError(t, []int{1}, 3, api.ErrNone)
	wantLimitedError(t, filled(5, 1), 2, api.ErrLimit)
	lengths, e = limit.Unlimited([]int{8, 4, 2, 1, 1})
	if e != api.OK || !slices.Equal(lengths, []int{1, 2, 3, 4, 4}) {
		t.Errorf("Unlimited([8 4 2 1 1]) = %v, %d", lengths, e)
	}
}

func TestExamplesOfLengths(t *testing.T) {
	lengths, e := limit.Uniform(5, 3)
	if e != api.OK || !slices.Equal(lengths, []int{2, 2, 2, 3, 3}) {
		t.Errorf("Uniform(5, 3) = %v, %d", lengths, e)
	}
	lengths, e = limit.Uniform(2, 1)
	if e != api.OK || !slices.Equal(lengths, []int{1, 1}) {
		t.Errorf("Uniform(2, 1) = %v, %d", lengths, e)
	}
	if cost, e := limit.Cost([]int{5, 0, 2}, []int{1, 1}); cost != 0 || e != api.ErrLimit {
		t.Errorf("Cost([5 0 2], [1 1]) = %d, %d", cost, e)
	}
	if cost, e := limit.Cost([]int{5, 0, 2}, []int{1, 2, 3}); cost != 11 || e != api.OK {
		t.Errorf("Cost([5 0 2], [1 2 3]) = %d, %d", cost, e)
	}
	wantKraft(t, []int{1, 2}, true, false)
	wantKraft(t, []int{1, 2, 2}, true, true)
	wantMaxLength(t, []int{0, 0}, 0, api.ErrNone)
}

// P13.1

func TestLengthsOfAllSmallHistograms(t *testing.T) {
	for n := range 5 {
		for most := 1; most <= 4; most++ {
			// The codes of the used symbols, by their number.
			byUsed := make([][][]int, n+1)
			for used := range byUsed {
				byUsed[used] = codes(used, most)
			}
			every(n, 0, 4, func(counts []int) {
				if e := maximumError(counts, most); e != api.OK {
					wantLimitedError(t, counts, most, e)
					return
				}
				used := positive(counts)
				wantLimited(t, counts, most, cheapestOf(byUsed[len(used)], used))
			})
		}
	}
}

func TestLengthsAgainstEveryCodeOfFiveAndSixSymbols(t *testing.T) {
	for n, high := range map[int]int{5: 4, 6: 3} {
		for most := 3; most <= 5; most++ {
			all := codes(n, most)
			every(n, 1, high, func(counts []int) {
				if slices.IsSorted(counts) || counts[0] == high {
					wantLimited(t, counts, most, cheapestOf(all, counts))
				}
			})
		}
	}
}

func TestLengthsOfManyHistograms(t *testing.T) {
	for _, counts := range histograms() {
		l := newLevels(counts)
		for most := 1; most <= maxCodeLen; most++ {
			if e := maximumError(counts, most); e != api.OK {
				wantLimitedError(t, counts, most, e)
			} else {
				wantLimited(t, counts, most, l.limited(most))
			}
		}
	}
}

func TestLengthsOfAsManySymbolsAsThereAreCodeWords(t *testing.T) {
	source := rand.New(rand.NewSource(1))
	for most := 1; most <= 8; most++ {
		for zeros := range 3 {
			counts := filled(1<<most, 0)
			for symbol := range counts {
				counts[symbol] = 1 + source.Intn(1+1000*zeros)
			}
			counts = append(counts, filled(min(zeros, maxSymbols-len(counts)), 0)...)
			wantLimited(t, counts, most, most*total(counts))
			if len(counts) < maxSymbols {
				wantLimitedError(t, append(counts, 1), most, api.ErrLimit)
				wantLimitedError(t, append([]int{maxCount}, counts...), most, api.ErrLimit)
			}
		}
	}
	for most := 1; most < 8; most++ {
		wantLimitedError(t, filled(256, 1), most, api.ErrLimit)
	}
}

func TestLengthsOfTwoSymbols(t *testing.T) {
	for most := 1; most <= maxCodeLen; most++ {
		for _, counts := range [][]int{{1, 1}, {1, maxCount}, {0, 0, 3, 0, 4, 0}, joined([]int{9}, filled(254, 0), []int{1})} {
			wantLimited(t, counts, most, total(counts))
		}
	}
}

func TestLengthsErrors(t *testing.T) {
	for _, most := range append(wrongMaxima(), 1, 2, 8, 11) {
		for _, counts := range wrongCounts() {
			wantLimitedError(t, counts, most, api.ErrArg)
		}
	}
	for _, most := range wrongMaxima() {
		for _, counts := range slices.Concat(chosen(), unused()) {
			wantLimitedError(t, counts, most, api.ErrArg)
		}
	}
	for most := 1; most <= maxCodeLen; most++ {
		for _, counts := range unused() {
			wantLimitedError(t, counts, most, api.ErrNone)
		}
	}
}

func TestLengthsErrorsInTheirOrder(t *testing.T) {
	wantLimitedError(t, []int{-1}, 3, api.ErrArg)                        // ahead of ErrNone
	wantLimitedError(t, []int{5}, 0, api.ErrArg)                         // ahead of ErrNone
	wantLimitedError(t, nil, 12, api.ErrArg)                             // ahead of ErrNone
	wantLimitedError(t, []int{1, 1, 1, -1}, 1, api.ErrArg)               // ahead of ErrLimit
	wantLimitedError(t, []int{1, 1, 1, maxCount + 1}, 1, api.ErrArg)     // ahead of ErrLimit
	wantLimitedError(t, filled(257, 1), 1, api.ErrArg)                   // ahead of ErrLimit
	wantLimitedError(t, []int{1, 1}, 0, api.ErrArg)                      // ahead of ErrLimit
	wantLimitedError(t, []int{1, 1, 1}, -1, api.ErrArg)                  // ahead of ErrLimit
	wantLimitedError(t, []int{1, 1, 1}, math.MinInt, api.ErrArg)         // ahead of ErrLimit
	wantLimitedError(t, joined(filled(256, 0), []int{0}), 0, api.ErrArg) // two reasons, one error
}

func TestLengthsFixTheChoiceOnlyWhereOneIsMinimal(t *testing.T) {
	// The counts 1, 1, 2, 2 have minimal codes of lengths 2, 2, 2, 2 and of 3, 3, 2, 1: either will do, at a maximum that allows for both.
	for most := 2; most <= maxCodeLen; most++ {
		lengths, e := limit.Lengths([]int{1, 1, 2, 2}, most)
		if e != api.OK || !slices.Equal(lengths, filled(4, 2)) && (most < 3 || total(lengths) != 9) {
			t.Errorf("Lengths([1 1 2 2], %d) = %v, %d", most, lengths, e)
		}
	}
}

// P13.2

func TestUnlimitedOfAllSmallHistograms(t *testing.T) {
	for n := range 6 {
		byUsed := make([][][]int, n+1)
		for used := range byUsed {
			byUsed[used] = codes(used, max(used-1, 1))
		}
		every(n, 0, 5-n/3, func(counts []int) {
			used := positive(counts)
			if len(used) < 2 {
				wantUnlimitedError(t, counts, api.ErrNone)
				return
			}
			lengths, e := limit.Unlimited(counts)
			if e != api.OK {
				t.Fatalf("Unlimited(%v): %d", counts, e)
			}
			// No code word is longer than if each but the last took one bit more than the one before it.
			wantCode(t, "Unlimited", counts, lengths, len(used)-1, cheapestOf(byUsed[len(used)], used))
		})
	}
}

func TestUnlimitedOfManyHistograms(t *testing.T) {
	for _, counts := range histograms() {
		wantUnlimited(t, counts)
	}
}

func TestUnlimitedOfLongLengths(t *testing.T) {
	// A Fibonacci number is one more than the sum of all that stand two places and more before it, so each takes the code one bit deeper.
	if most := wantUnlimited(t, fibonacci(46)); most < 44 {
		t.Errorf("the greatest length of 46 Fibonacci numbers is %d", most)
	}
	if most := wantUnlimited(t, powers(32)); most != 31 {
		t.Errorf("the greatest length of 32 powers of two is %d", most)
	}
	if most := wantUnlimited(t, deep()); most < 50 {
		t.Errorf("the greatest length of 46 Fibonacci numbers among 210 of the greatest counts is %d", most)
	}
}

func TestUnlimitedErrors(t *testing.T) {
	for _, counts := range wrongCounts() {
		wantUnlimitedError(t, counts, api.ErrArg)
	}
	for _, counts := range unused() {
		wantUnlimitedError(t, counts, api.ErrNone)
	}
	wantUnlimitedError(t, []int{-1}, api.ErrArg) // ahead of ErrNone
}

// P13.3

func TestUniformOfAllNumbers(t *testing.T) {
	for n := range maxSymbols + 1 {
		for most := 1; most <= maxCodeLen; most++ {
			if n < 2 {
				wantUniformError(t, n, most, api.ErrNone)
				continue
			}
			if n > 1<<most {
				wantUniformError(t, n, most, api.ErrLimit)
				continue
			}
			lengths, e := limit.Uniform(n, most)
			if e != api.OK || len(lengths) != n || !slices.IsSorted(lengths) {
				t.Fatalf("Uniform(%d, %d) = %v of %d, %d", n, most, brief(lengths), len(lengths), e)
			}
			floor := bits.Len(uint(n)) - 1
			if lengths[0] < floor || lengths[n-1] > floor+1 || lengths[n-1] > most || kraftSum(lengths).Cmp(unit()) != 0 {
				t.Errorf("Uniform(%d, %d) = %v", n, most, lengths)
			}
		}
	}
}

func TestUniformOfPowersOfTwo(t *testing.T) {
	for log := 1; log <= 8; log++ {
		if lengths, e := limit.Uniform(1<<log, log); e != api.OK || !slices.Equal(lengths, filled(1<<log, log)) {
			t.Errorf("Uniform(%d, %d) = %v, %d", 1<<log, log, brief(lengths), e)
		}
		if log < 8 {
			wantUniformError(t, 1<<log+1, log, api.ErrLimit)
		}
	}
}

func TestUniformErrors(t *testing.T) {
	for _, n := range []int{math.MinInt, math.MinInt32, -256, -2, -1, 257, 258, 512, 1 << 32, math.MaxInt} {
		for _, most := range append(wrongMaxima(), 1, 2, 8, 11) {
			wantUniformError(t, n, most, api.ErrArg)
		}
	}
	for _, most := range wrongMaxima() {
		for _, n := range []int{0, 1, 2, 3, 5, 255, 256} {
			wantUniformError(t, n, most, api.ErrArg) // ahead of ErrNone and ErrLimit
		}
	}
}

// P13.4

func TestCostOfAllSmallArguments(t *testing.T) {
	seen := map[api.Errno]int{}
	for n := range 4 {
		for many := range 4 {
			every(n, -1, 3, func(counts []int) {
				every(many, -1, 3, func(lengths []int) { seen[wantCost(t, counts, lengths)]++ })
			})
		}
	}
	if len(seen) != 3 || seen[api.OK] < 1000 || seen[api.ErrArg] < 1000 || seen[api.ErrLimit] < 1000 {
		t.Errorf("so many results of each kind: %v", seen)
	}
}

func TestCostOfManyArguments(t *testing.T) {
	all := histograms()
	for _, lengths := range codeLengths() {
		for k := range 4 {
			wantCost(t, all[(len(lengths)*7+k*13)%len(all)], lengths)
		}
		wantCost(t, filled(len(lengths), 3), lengths)
		wantCost(t, lengths, lengths)
	}
}

func TestCostOfTheGreatestNumbers(t *testing.T) {
	if cost, e := limit.Cost(filled(256, maxCount), filled(256, maxFree)); cost != 256*maxCount*maxFree || e != api.OK {
		t.Errorf("the greatest cost = %d, %d", cost, e)
	}
}

func TestCostOfNothing(t *testing.T) {
	for _, counts := range [][]int{nil, {}, {0}, {0, 0, 0}, filled(256, 0)} {
		for _, lengths := range [][]int{nil, {}, {0}, {5}, {1, 1, 1}, filled(256, 0), filled(256, 60)} {
			if cost, e := limit.Cost(counts, lengths); cost != 0 || e != api.OK {
				t.Errorf("Cost(%v of %d, %v of %d) = %d, %d", brief(counts), len(counts), brief(lengths), len(lengths), cost, e)
			}
		}
	}
}

func TestCostWithOtherNumbersOfLengths(t *testing.T) {
	for _, x := range []struct {
		counts, lengths []int
		cost            int
		e               api.Errno
	}{
		{[]int{3, 2}, []int{1, 2, 7, 60}, 7, api.OK},         // lengths of unused symbols, behind the counts
		{[]int{0, 3}, []int{60, 2}, 6, api.OK},               // and ahead of a used one
		{[]int{3, 2, 0, 0}, []int{1, 2}, 7, api.OK},          // counts of 0 behind the lengths
		{[]int{3, 2, 0, 1}, []int{1, 2}, 0, api.ErrLimit},    // a used symbol behind the lengths
		{[]int{3, 2}, []int{1, 0}, 0, api.ErrLimit},          // a used symbol with a length of 0
		{[]int{3}, nil, 0, api.ErrLimit},                     // no lengths
		{[]int{7}, []int{1}, 7, api.OK},                      // one used symbol
		{[]int{1, 1, 1}, []int{1, 1, 1}, 3, api.OK},          // more than Kraft's inequality allows
		{[]int{1, 1}, []int{60, 60}, 120, api.OK},            // less
		{filled(256, 1), filled(255, 8), 0, api.ErrLimit},    // the last symbol has none
		{filled(255, 1), filled(256, 8), 255 * 8, api.OK},    // the last length has no symbol
		{[]int{0, 0, 4}, []int{0, 0, 3, 0}, 12, api.OK},      // zeros in both
		{[]int{0, 4, 0, 0, 1}, []int{0, 3}, 0, api.ErrLimit}, // what is counted before the error is not returned
	} {
		if cost, e := limit.Cost(x.counts, x.lengths); cost != x.cost || e != x.e {
			t.Errorf("Cost(%v of %d, %v of %d) = %d, %d, want %d, %d", brief(x.counts), len(x.counts), brief(x.lengths), len(x.lengths), cost, e, x.cost, x.e)
		}
	}
}

func TestCostErrors(t *testing.T) {
	for _, counts := range wrongCounts() {
		for _, lengths := range [][]int{nil, {1, 1}, filled(256, 8), {-1}, filled(257, 1)} {
			wantCost(t, counts, lengths) // ahead of ErrLimit
		}
	}
	for _, lengths := range wrongLengths() {
		for _, counts := range [][]int{nil, {0}, {1, 1}, filled(256, 1), filled(256, maxCount), {-1}, filled(257, 1)} {
			if e := wantCost(t, counts, lengths); e != api.ErrArg { // ahead of ErrLimit
				t.Errorf("Cost(%v of %d, %v of %d): %d", brief(counts), len(counts), brief(lengths), len(lengths), e)
			}
		}
	}
}

func TestKraftOfAllSmallLengths(t *testing.T) {
	for n := range 6 {
		every(n, -1, 4, func(lengths []int) {
			if !lengthsValid(lengths) {
				wantKraft(t, lengths, false, false)
				return
			}
			sum := kraftSum(lengths).Cmp(unit())
			wantKraft(t, lengths, sum <= 0, sum == 0)
		})
	}
}

func TestKraftOfManyLengths(t *testing.T) {
	for _, lengths := range codeLengths() {
		sum := kraftSum(lengths).Cmp(unit())
		wantKraft(t, lengths, sum <= 0, sum == 0)
	}
}

func TestKraftNearOne(t *testing.T) {
	ladder := make([]int, 60)
	for k := range ladder {
		ladder[k] = k + 1
	}
	wantKraft(t, ladder, true, false)                                   // 1 - 2^-60
	wantKraft(t, joined(ladder, []int{60}), true, true)                 // 1
	wantKraft(t, joined(ladder, []int{60, 60}), false, false)           // 1 + 2^-60
	wantKraft(t, joined([]int{60, 60}, backward(ladder)), false, false) // the same
	wantKraft(t, []int{1, 1, 60}, false, false)                         // 1 + 2^-60
	wantKraft(t, []int{60, 1, 1}, false, false)                         // the same
	wantKraft(t, filled(256, 1), false, false)                          // 128
	wantKraft(t, filled(256, 60), true, false)                          // 2^-52
	wantKraft(t, filled(256, 8), true, true)                            // 1
	wantKraft(t, filled(255, 8), true, false)                           // 1 - 2^-8
	wantKraft(t, joined(filled(255, 8), []int{7}), false, false)        // 1 + 2^-8
}

func TestKraftFarAboveOne(t *testing.T) {
	// In units of 2^-60 these sums are so great that they would leave an int.
	for n := 2; n <= 255; n++ {
		for length := 1; 1<<length < n; length++ {
			wantKraft(t, joined(filled(n, length), []int{60}), false, false)
			wantKraft(t, joined([]int{60}, filled(n-1, length), []int{length}), false, false)
		}
	}
}

func TestKraftOfNoLengths(t *testing.T) {
	// The sum of nothing is 0, which is at most 1.
	for _, lengths := range [][]int{nil, {}, {0}, {0, 0}, filled(256, 0)} {
		wantKraft(t, lengths, true, false)
	}
}

func TestKraftOfInvalidLengths(t *testing.T) {
	for _, lengths := range wrongLengths() {
		wantKraft(t, lengths, false, false)
	}
	wantKraft(t, []int{1, 1, -1}, false, false)
	wantKraft(t, []int{1, 61}, false, false)
	wantKraft(t, joined([]int{1, 1}, filled(255, 0)), false, false)
}

func TestMaxLength(t *testing.T) {
	for _, lengths := range codeLengths() {
		if most := total(positive(lengths)); most == 0 {
			wantMaxLength(t, lengths, 0, api.ErrNone)
		} else {
			wantMaxLength(t, lengths, slices.Max(lengths), api.OK)
		}
	}
	for length := 1; length <= maxFree; length++ {
		wantMaxLength(t, []int{length}, length, api.OK)
		wantMaxLength(t, []int{0, length, 1, length, 0}, length, api.OK)
	}
}

func TestMaxLengthErrors(t *testing.T) {
	for _, lengths := range wrongLengths() {
		wantMaxLength(t, lengths, 0, api.ErrArg)
	}
	for _, lengths := range [][]int{nil, {}, {0}, {0, 0}, filled(256, 0)} {
		wantMaxLength(t, lengths, 0, api.ErrNone)
	}
	wantMaxLength(t, []int{-1}, 0, api.ErrArg)      // ahead of ErrNone
	wantMaxLength(t, filled(257, 0), 0, api.ErrArg) // ahead of ErrNone
}

// P13.5

func TestLengthCounts(t *testing.T) {
	wantPairs(t, []int{1, 3, 0, 3}, []pair{{1, 1}, {2, 0}, {3, 2}})
	wantPairs(t, []int{2}, []pair{{1, 0}, {2, 1}})
	wantPairs(t, filled(256, 1), []pair{{1, 256}})
	for n := range 5 {
		every(n, 0, 4, func(lengths []int) { wantPairs(t, lengths, counted(lengths)) })
	}
	for _, lengths := range codeLengths() {
		wantPairs(t, lengths, counted(lengths))
	}
	if all := pairs(limit.LengthCounts([]int{60})); len(all) != 60 || all[59] != (pair{60, 1}) || all[58] != (pair{59, 0}) {
		t.Errorf("LengthCounts([60]) = %v", all)
	}
}

func TestLengthCountsOfNothing(t *testing.T) {
	for _, lengths := range append(wrongLengths(), nil, []int{}, []int{0}, []int{0, 0}, filled(256, 0)) {
		wantPairs(t, lengths, nil)
	}
}

func TestLengthCountsLeftEarly(t *testing.T) {
	lengths := []int{1, 3, 0, 3, 5}
	all, whole := limit.LengthCounts(lengths), counted(lengths)
	for n := range len(whole) + 1 {
		got := []pair{}
		for length, many := range all {
			if len(got) == n {
				break
			}
			got = append(got, pair{length, many})
		}
		if !slices.Equal(got, whole[:n]) {
			t.Errorf("the first %d are %v", n, got)
		}
		if got := pairs(all); !slices.Equal(got, whole) {
			t.Errorf("after a loop left behind %d they are %v", n, got)
		}
	}
}

func TestLengthCountsWithinItself(t *testing.T) {
	all, many := limit.LengthCounts([]int{1, 2, 3, 3}), 0
	for length, n := range all {
		for other, m := range all {
			many += length * n * other * m
		}
	}
	if many != 81 { // (1 + 2 + 2 * 3) squared
		t.Errorf("two loops over one iterator, one in the other: %d", many)
	}
}

func TestLengthCountsAfterAChange(t *testing.T) {
	lengths := []int{1, 3, 0, 3}
	all, want := limit.LengthCounts(lengths), counted(lengths)
	lengths[0], lengths[1], lengths[2] = 7, -5, 61
	if got := pairs(all); !slices.Equal(got, want) {
		t.Errorf("after a change of the lengths: %v", got)
	}
	for length := range all {
		lengths[3] = length
	}
	if got := pairs(all); !slices.Equal(got, want) {
		t.Errorf("after a change of the lengths in the loop: %v", got)
	}
	lengths = []int{99, 1}
	all = limit.LengthCounts(lengths)
	lengths[0] = 1
	if got := pairs(all); len(got) != 0 {
		t.Errorf("of lengths that were invalid: %v", got)
	}
}

// P13.6

func TestMinCostDoesNotIncreaseWithMost(t *testing.T) {
	for _, counts := range histograms() {
		lengths, e := limit.Unlimited(counts)
		free, f := limit.Cost(counts, lengths)
		if e != api.OK || f != api.OK {
			t.Fatalf("Unlimited(%v of %d): %d, %d", brief(counts), len(counts), e, f)
		}
		last := math.MaxInt
		for most := 1; most <= maxCodeLen; most++ {
			cost, e := limit.MinCost(counts, most)
			if e == api.ErrLimit && last == math.MaxInt {
				continue
			}
			if e != api.OK || cost > last || cost < free || cost != free && slices.Max(lengths) <= most {
				t.Errorf("MinCost(%v of %d, %d) = %d, %d: %d with one bit less, %d without a maximum", brief(counts), len(counts), most, cost, e, last, free)
			}
			last = cost
		}
	}
}

func TestMinCostOfAnotherOrder(t *testing.T) {
	source := rand.New(rand.NewSource(2))
	for _, counts := range histograms() {
		for most := 4; most <= maxCodeLen; most += 3 {
			want, wantE := limit.MinCost(counts, most)
			for _, other := range [][]int{backward(counts), positive(counts), nil} {
				if other == nil {
					other = slices.Clone(counts)
					source.Shuffle(len(other), func(i, j int) { other[i], other[j] = other[j], other[i] })
				}
				if got, e := limit.MinCost(other, most); got != want || e != wantE {
					t.Errorf("MinCost(%v of %d, %d) = %d, %d, and %d, %d in another order", brief(counts), len(counts), most, want, wantE, got, e)
				}
			}
		}
	}
}

// wantGreaterShorter checks that no symbol has a longer code word than one with a smaller count.
func wantGreaterShorter(t *testing.T, counts, lengths []int) {
	t.Helper()
	for a, n := range counts {
		for b, m := range counts {
			if n > m && m > 0 && lengths[a] > lengths[b] {
				t.Errorf("%v of %d: symbol %d has count %d and length %d, symbol %d has count %d and length %d", brief(counts), len(counts), a, n, lengths[a], b, m, lengths[b])
			}
		}
	}
}

func TestGreaterCountsHaveNoLongerCodeWords(t *testing.T) {
	for _, counts := range histograms() {
		for most := 1; most <= maxCodeLen; most += 2 {
			if lengths, e := limit.Lengths(counts, most); e == api.OK {
				wantGreaterShorter(t, counts, lengths)
			}
		}
		if lengths, e := limit.Unlimited(counts); e == api.OK {
			wantGreaterShorter(t, counts, lengths)
		}
	}
}

func TestEqualCountsCostAsUniform(t *testing.T) {
	for n := 2; n <= maxSymbols; n++ {
		for _, count := range []int{1, 5, maxCount} {
			counts, least := filled(n, count), bits.Len(uint(n-1))
			for _, most := range []int{least, maxCodeLen} {
				lengths, e := limit.Uniform(n, most)
				want, f := limit.Cost(counts, lengths)
				if got, g := limit.MinCost(counts, most); got != want || e != api.OK || f != api.OK || g != api.OK {
					t.Errorf("MinCost(%d times %d, %d) = %d, %d; of Uniform's lengths: %d, %d, %d", n, count, most, got, g, want, e, f)
				}
			}
		}
		lengths, _ := limit.Unlimited(filled(n, 3))
		uniform, _ := limit.Uniform(n, maxCodeLen)
		if total(lengths) != total(uniform) || len(lengths) != n {
			t.Errorf("Unlimited(%d times 3) = %v", n, brief(lengths))
		}
	}
}

// The rules that hold everywhere

// lent returns a copy of a list with numbers in its spare capacity, and a function that tells whether anything of it was changed.
func lent(list []int) ([]int, func() bool) {
	whole := joined(list, filled(9, 77))
	before := slices.Clone(whole)
	return whole[:len(list)], func() bool { return !slices.Equal(whole, before) }
}

func TestArgumentsDoNotChange(t *testing.T) {
	for _, x := range slices.Concat(chosen(), unused(), sums(), wrongCounts()[:40], wrongLengths()[:40]) {
		counts, countsChanged := lent(x)
		lengths, lengthsChanged := lent(filled(len(x), 3))
		limit.Lengths(counts, 9)
		limit.MinCost(counts, 9)
		limit.Unlimited(counts)
		limit.Cost(counts, lengths)
		limit.Cost(lengths, counts)
		limit.Kraft(counts)
		limit.MaxLength(counts)
		for range limit.LengthCounts(counts) {
		}
		if countsChanged() || lengthsChanged() {
			t.Errorf("%v of %d was changed", brief(x), len(x))
		}
	}
}

func TestResultsShareNoMemory(t *testing.T) {
	for _, x := range chosen() {
		counts := slices.Clone(x)
		for _, find := range []func() ([]int, api.Errno){
			func() ([]int, api.Errno) { return limit.Lengths(counts, maxCodeLen) },
			func() ([]int, api.Errno) { return limit.Unlimited(counts) },
			func() ([]int, api.Errno) { return limit.Uniform(len(counts), maxCodeLen) },
		} {
			first, e := find()
			kept := slices.Clone(first)
			second, f := find()
			if e != api.OK || f != api.OK || !slices.Equal(first, second) {
				t.Fatalf("two results for %v of %d: %v, %v", brief(x), len(x), brief(first), brief(second))
			}
			second = second[:cap(second)]
			for k := range second {
				second[k] = -9
			}
			if !slices.Equal(first, kept) || !slices.Equal(counts, x) {
				t.Errorf("the result for %v of %d shares memory", brief(x), len(x))
			}
			for k := range counts {
				counts[k] = 0
			}
			if !slices.Equal(first, kept) {
				t.Errorf("the result for %v of %d shares memory with the counts", brief(x), len(x))
			}
			copy(counts, x)
		}
	}
}
