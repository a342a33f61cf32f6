package limit_test

import (
	"math"
	"math/rand"
	"slices"
	"testing"
)

// The document's numbers, written out once more, so that a wrong one in the package shows.
const (
	maxSymbols = 256
	maxCount   = 2147483648
	maxCodeLen = 11
	maxFree    = 60
)

// filled returns n numbers that are all the same.
func filled(n, value int) []int { return slices.Repeat([]int{value}, n) }

// joined returns the concatenation of lists, in new memory.
func joined(lists ...[]int) []int { return slices.Concat(lists...) }

// brief shows a list in a message.
func brief(list []int) []int { return list[:min(len(list), 16)] }

// fibonacci returns the first n Fibonacci numbers: 1, 1, 2, and so on.
func fibonacci(n int) []int {
	list := []int{1, 1}
	for len(list) < n {
		list = append(list, list[len(list)-1]+list[len(list)-2])
	}
	return list[:n]
}

// powers returns the powers of two from 2^0 to 2^(n-1).
func powers(n int) []int {
	list := make([]int, n)
	for k := range list {
		list[k] = 1 << k
	}
	return list
}

// spread returns a list with zeros at the beginning, at the end, and between its numbers.
func spread(list []int, before, between, behind int) []int {
	out := filled(before, 0)
	for k, n := range list {
		if k > 0 {
			out = append(out, filled(between, 0)...)
		}
		out = append(out, n)
	}
	return append(out, filled(behind, 0)...)
}

// backward returns a list from its end to its beginning.
func backward(list []int) []int {
	out := slices.Clone(list)
	slices.Reverse(out)
	return out
}

// deep are 256 counts whose unlimited lengths are among the longest: as many Fibonacci numbers as are not above the greatest count, and that count itself.
func deep() []int { return joined(fibonacci(46), filled(210, maxCount)) }

// chosen returns histograms with two used symbols or more, of the kinds that the chapter names.
func chosen() [][]int {
	all := [][]int{
		{5, 2, 1, 1}, {8, 4, 2, 1, 1}, {5, 0, 2}, {1, 1}, {1, maxCount}, {maxCount, 1}, {maxCount, maxCount}, {1, 1, 1}, {2, 1, 1}, {1, 2, 1},
		{3, 3, 3, 1}, {1, 1, 2, 2}, {2, 2, 3, 3}, {9, 9, 1, 1, 1, 1}, {1, 1, 1, 1, 4}, {7, 6, 5, 4, 3, 2, 1},
		spread([]int{5, 2, 1, 1}, 3, 0, 0), spread([]int{5, 2, 1, 1}, 0, 2, 0), spread([]int{5, 2, 1, 1}, 0, 0, 4), spread([]int{5, 2, 1, 1}, 1, 2, 3),
		joined([]int{4}, filled(254, 0), []int{9}), joined(filled(254, 0), []int{1, 1}), joined([]int{1, 1}, filled(254, 0)),
		powers(32), backward(powers(32)), joined([]int{1}, powers(32)), powers(12), powers(13),
		fibonacci(46), backward(fibonacci(46)), fibonacci(13), fibonacci(14), fibonacci(12), spread(fibonacci(46), 1, 3, 9),
		deep(), backward(deep()), joined(filled(255, 1), []int{maxCount}), joined(filled(255, maxCount), []int{1}), joined(filled(128, 1), filled(128, 2)),
		joined([]int{maxCount}, powers(32), filled(60, 1)), joined(fibonacci(46), filled(60, maxCount)),
	}
	for _, n := range []int{2, 3, 4, 5, 7, 8, 9, 127, 128, 129, 255, 256} {
		all = append(all, filled(n, 1), filled(n, 7), filled(n, maxCount))
	}
	return all
}

// unused returns valid histograms with fewer than two used symbols.
func unused() [][]int {
	return [][]int{nil, {}, {0}, {1}, {maxCount}, {0, 0}, {0, 1}, {1, 0}, {0, 0, 5, 0}, filled(256, 0), joined(filled(255, 0), []int{3}), joined([]int{3}, filled(255, 0))}
}

// random returns a histogram with two used symbols or more, of any number of symbols up to that.
func random(source *rand.Rand, symbols int) []int {
	for {
		counts, high, zeros := make([]int, 2+source.Intn(symbols-1)), 1+source.Intn(1<<source.Intn(32)), source.Intn(4)
		for symbol := range counts {
			if source.Intn(4) >= zeros {
				counts[symbol] = source.Intn(high + 1)
			}
		}
		if len(positive(counts)) >= 2 {
			return counts
		}
	}
}

// histograms returns histograms of many kinds with two used symbols or more.
func histograms() [][]int {
	all, source := chosen(), rand.New(rand.NewSource(13))
	for k := range 60 {
		all = append(all, random(source, []int{5, 20, 70, 256}[k%4]))
	}
	return all
}

// planted returns lists of several lengths with a bad number at several places, among other numbers.
func planted(bad, others []int) [][]int {
	var all [][]int
	for _, wrong := range bad {
		for _, n := range []int{1, 2, 3, 17, 255, 256} {
			for _, at := range []int{0, n / 2, n - 1} {
				for _, other := range others {
					list := filled(n, other)
					list[at] = wrong
					all = append(all, list)
				}
			}
		}
	}
	return all
}

// wrongCounts returns lists that are no valid histograms.
func wrongCounts() [][]int {
	bad := []int{-1, -2, -maxCount, math.MinInt32, math.MinInt, maxCount + 1, 2 * maxCount, 1<<62 - 1, math.MaxInt}
	all := planted(bad, []int{0, 1, maxCount})
	return append(all, filled(257, 0), filled(257, 1), filled(258, 1), joined([]int{1, 1}, filled(255, 0)), filled(65536, 0), joined(filled(256, 1), []int{-1}))
}

// wrongLengths returns lists that are no code lengths.
func wrongLengths() [][]int {
	bad := []int{-1, -2, -60, math.MinInt32, math.MinInt, maxFree + 1, maxFree + 2, 64, 128, 256, 1 << 32, math.MaxInt}
	all := planted(bad, []int{0, 1, 8, maxFree})
	return append(all, filled(257, 0), filled(257, 1), filled(257, 8), filled(258, 60), joined([]int{1, 1}, filled(255, 0)), filled(65536, 0), []int{1, 1, 1, -1}, []int{1, 1, 1, 61})
}

// wrongMaxima are maxima that are not allowed.
func wrongMaxima() []int {
	return []int{math.MinInt, math.MinInt32, -64, -2, -1, 0, maxCodeLen + 1, 13, 60, 63, 64, 65, 256, 1 << 32, math.MaxInt}
}

// sums returns code lengths whose sum in Kraft's inequality is 1, just below it, or just above it, and others.
func sums() [][]int {
	ladder := func(n int) []int { // 1, 2, 3, up to n
		list := make([]int, n)
		for k := range list {
			list[k] = k + 1
		}
		return list
	}
	return [][]int{
		nil, {}, {0}, {0, 0}, filled(256, 0),
		{1}, {1, 1}, {1, 1, 1}, {1, 2}, {1, 2, 2}, {1, 2, 2, 60}, {2, 2, 2, 2}, {2, 2, 2}, {2, 2, 2, 2, 2}, {0, 1, 0, 1, 0}, {2, 1, 2}, {3, 3, 2, 1},
		{60}, {60, 60}, {59, 60, 60}, filled(256, 60), filled(256, 59), {1, 1, 60}, {1, 60}, joined([]int{1}, filled(255, 60)), joined(filled(254, 60), []int{1, 1}),
		ladder(60), joined(ladder(60), []int{60}), joined(ladder(60), []int{60, 60}), joined(ladder(60), []int{59}), joined(ladder(59), []int{60}), joined(backward(ladder(60)), []int{60}),
		joined(ladder(60), []int{60}, filled(195, 0)), joined(filled(195, 0), ladder(60), []int{60}), joined(ladder(59), []int{60, 60, 60}),
		filled(255, 1), filled(256, 1), filled(256, 2), filled(256, 7), filled(256, 8), filled(255, 8), filled(256, 9), joined(filled(255, 8), []int{7}), joined(filled(255, 8), []int{9}), joined(filled(255, 8), []int{60}),
		joined(filled(128, 8), filled(127, 9)), joined(filled(127, 7), []int{8, 8}), joined(filled(127, 7), []int{8, 8, 60}), joined(filled(127, 7), []int{8, 60}),
	}
}

// randomLengths returns code lengths: those of a complete code, whose code words are split one after the other, and of which some are then changed at times.
func randomLengths(source *rand.Rand) []int {
	lengths, most := []int{1, 1}, 2+source.Intn(maxFree-1)
	for range source.Intn(maxSymbols - 1) {
		at := source.Intn(len(lengths))
		if source.Intn(3) > 0 {
			at = len(lengths) - 1
		}
		if lengths[at] < most {
			lengths[at]++
			lengths = append(lengths, lengths[at])
		}
	}
	for range source.Intn(3) {
		lengths[source.Intn(len(lengths))] = source.Intn(maxFree + 1)
	}
	return spread(lengths, source.Intn(1+(maxSymbols-len(lengths))/2), 0, source.Intn(1+(maxSymbols-len(lengths))/2))
}

// codeLengths returns code lengths of many kinds.
func codeLengths() [][]int {
	all, source := sums(), rand.New(rand.NewSource(14))
	for range 400 {
		all = append(all, randomLengths(source))
	}
	return all
}

func TestTheTables(t *testing.T) {
	for _, counts := range histograms() {
		if !histogramValid(counts) || len(positive(counts)) < 2 {
			t.Errorf("%v of %d is no histogram with two used symbols", brief(counts), len(counts))
		}
	}
	for _, counts := range unused() {
		if !histogramValid(counts) || len(positive(counts)) > 1 {
			t.Errorf("%v of %d has two used symbols", brief(counts), len(counts))
		}
	}
	for _, counts := range wrongCounts() {
		if histogramValid(counts) {
			t.Errorf("%v of %d is a valid histogram", brief(counts), len(counts))
		}
	}
	below, exact, above := 0, 0, 0
	for _, lengths := range codeLengths() {
		if !lengthsValid(lengths) {
			t.Errorf("%v of %d are no code lengths", brief(lengths), len(lengths))
		}
		switch kraftSum(lengths).Cmp(unit()) {
		case -1:
			below++
		case 0:
			exact++
		case 1:
			above++
		}
	}
	if below < 50 || exact < 50 || above < 50 {
		t.Errorf("%d sums are below 1, %d are 1, %d are above it", below, exact, above)
	}
	for _, lengths := range wrongLengths() {
		if lengthsValid(lengths) {
			t.Errorf("%v of %d are code lengths", brief(lengths), len(lengths))
		}
	}
}

func TestTheModel(t *testing.T) {
	for n := 2; n <= 4; n++ {
		for most := 1; most <= 4; most++ {
			all := codes(n, most)
			every(n, 1, 4, func(counts []int) {
				want := cheapestOf(all, counts)
				if n > 1<<most {
					if want >= 0 {
						t.Fatalf("there are codes of %d symbols with %d bits at most", n, most)
					}
					return
				}
				if got := newLevels(counts).limited(most); got != want {
					t.Fatalf("the minimal cost of %v with %d bits at most is %d by levels, and %d among all codes", counts, most, got, want)
				}
				if got := huffman(counts); most >= n-1 && got != want {
					t.Fatalf("the minimal cost of %v is %d by Huffman's algorithm, and %d among all codes", counts, got, want)
				}
			})
		}
	}
}
