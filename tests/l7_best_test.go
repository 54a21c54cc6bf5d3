package tests

import (
	"fmt"
	"math/rand"
	"slices"
	"strings"
	"testing"

	"loop.example/g01164/impl"
)

var (
	// Lists that are no weights: none, too many, and numbers out of range.
	noWeights = [][]int{nil, {0}, {-1}, {101}, {-1 << 63}, {1<<63 - 1}, {1, 0}, {0, 1}, {1, -1}, {1, 2, 101}, {101, 1}, slices.Repeat([]int{1}, 13), slices.Repeat([]int{100}, 13), make([]int, 12), make([]int, 1000)}

	// Lists that are no lengths for any weights.
	noDeepLengths = [][]int{nil, {0}, {-1}, {12}, {-1 << 63}, {1<<63 - 1}, {1, 0}, {0, 1}, {3, -1}, {2, 12}, {12, 2, 1}, {1, 2, 0}, slices.Repeat([]int{11}, 13), make([]int, 12), make([]int, 1000)}

	// As many weights as there may be, some best lengths of which are as great as they may be.
	steepWeights = []int{1, 1, 1, 2, 3, 5, 8, 13, 21, 34, 55, 89}
	steepLengths = []int{11, 11, 10, 9, 8, 7, 6, 5, 4, 3, 2, 1}

	// All best lengths of these weights have one that is at least 10.
	lastWeights = []int{1, 1, 1, 3, 4, 7, 11, 18, 29, 47, 76, 100}
)

// numberLists lists all lists of n numbers in 1..most, in any order, lexicographically.
func numberLists(n int, most int) [][]int {
	lists := [][]int{nil}
	for range n {
		var longer [][]int
		for _, l := range lists {
			for number := 1; number <= most; number++ {
				longer = append(longer, append(slices.Clone(l), number))
			}
		}
		lists = longer
	}
	return lists
}

// mixedWeights lists weights of all numbers from 1 to most, always the same ones, in which equal and very different weights are frequent.
func mixedWeights(number int, most int) [][]int {
	random := rand.New(rand.NewSource(7))
	var lists [][]int
	for i := range number {
		weights := make([]int, 1+i%most)
		greatest := []int{1, 2, 5, 20, 100}[random.Intn(5)]
		for k := range weights {
			weights[k] = 1 + random.Intn(greatest)
			if random.Intn(4) == 0 {
				weights[k] = 1 + random.Intn(impl.MaxWeight)
			}
		}
		lists = append(lists, weights)
	}
	return lists
}

// someWeights lists weights of at most most numbers: all small ones, mixed ones and those that meet limits.
func someWeights(most int) [][]int {
	lists := [][]int{{1}, {2}, {100}, {100, 100}, {1, 100}, {100, 1}, steepWeights, slices.Repeat([]int{100}, 12), slices.Repeat([]int{1}, 12), slices.Repeat([]int{1}, 11), slices.Repeat([]int{100}, 6), slices.Repeat([]int{1}, 7), {100, 1, 1, 1, 1, 1}, {1, 1, 1, 1, 1, 100}, {1, 1, 2, 4, 8, 16}, {32, 16, 8, 4, 2, 1, 1}}
	for n := 1; n <= 4; n++ {
		lists = append(lists, numberLists(n, 3)...)
	}
	lists = append(lists, mixedWeights(40*most, most)...)
	return slices.DeleteFunc(lists, func(weights []int) bool { return len(weights) > most })
}

func total(numbers []int) int {
	sum := 0
	for _, n := range numbers {
		sum += n
	}
	return sum
}

func costOf(weights []int, lengths []int) int {
	var products []int
	for i := range weights {
		products = append(products, weights[i]*lengths[i])
	}
	return total(products)
}

// fitIn takes words away from all those that are free, length by length.
func fitIn(lengths []int, letters int) bool {
	free := 1
	for length := 1; length <= slices.Max(lengths); length++ {
		free *= letters
		for _, l := range lengths {
			if l == length {
				free--
			}
		}
		if free < 0 {
			return false
		}
	}
	return true
}

// fittingLists keeps the lengths, found once, that n weights can have; no best ones are greater than n, but for those of one weight.
var fittingLists = map[[2]int][][]int{}

func fittingFor(n int, letters int) [][]int {
	key := [2]int{n, letters}
	if fittingLists[key] == nil {
		greatest := []int{0, 11, 11, 11, 7, 6, 6}[n]
		fittingLists[key] = slices.DeleteFunc(numberLists(n, greatest), func(l []int) bool { return !fitIn(l, letters) })
	}
	return fittingLists[key]
}

// cheapest lists the lengths of the least cost, in their order, and this cost.
func cheapest(weights []int, lists [][]int) ([][]int, int) {
	var best [][]int
	least := -1
	for _, l := range lists {
		cost := costOf(weights, l)
		if least < 0 || cost < least {
			best, least = nil, cost
		}
		if cost == least {
			best = append(best, l)
		}
	}
	return best, least
}

// leastWithin gives weights one after the other each length that leaves room, and keeps the least cost for each room, counted in words of most letters.
func leastWithin(weights []int, letters int, most int) (int, bool) {
	size := []int{1}
	for range most {
		size = append(size, size[len(size)-1]*letters)
	}
	costs := map[int]int{size[most]: 0}
	for _, w := range weights {
		next := map[int]int{}
		for room, cost := range costs {
			for length := 1; length <= most; length++ {
				left := room - size[most-length]
				known, isKnown := next[left]
				if left >= 0 && (!isKnown || cost+w*length < known) {
					next[left] = cost + w*length
				}
			}
		}
		costs = next
	}
	least, found := 0, false
	for _, cost := range costs {
		if !found || cost < least {
			least, found = cost, true
		}
	}
	return least, found
}

// mergeRun takes the least numbers away one by one.
func mergeRun(weights []int, letters int) []int {
	numbers, sums := slices.Clone(weights), []int(nil)
	for len(numbers) > 1 {
		take := letters
		if letters == 3 && len(numbers)%2 == 0 {
			take = 2
		}
		sum := 0
		for range take {
			i := slices.Index(numbers, slices.Min(numbers))
			sum += numbers[i]
			numbers = slices.Delete(numbers, i, i+1)
		}
		numbers, sums = append(numbers, sum), append(sums, sum)
	}
	return sums
}

func TestCostOf(t *testing.T) {
	for _, c := range []struct {
		weights, lengths []int
		want             int
	}{
		{[]int{1}, []int{1}, 1}, {[]int{100}, []int{11}, 1100}, {[]int{1, 1, 2, 4}, []int{3, 3, 2, 1}, 14}, {[]int{1, 2, 1}, []int{1, 2, 2}, 7}, {[]int{1, 2, 1}, []int{2, 1, 2}, 6}, {[]int{5, 3}, []int{1, 11}, 38}, {[]int{5, 3}, []int{11, 1}, 58},
		{[]int{1, 1, 1}, []int{1, 1, 1}, 3}, {slices.Repeat([]int{100}, 12), slices.Repeat([]int{11}, 12), 13200}, {slices.Repeat([]int{1}, 12), slices.Repeat([]int{1}, 12), 12}, {steepWeights, steepLengths, 607},
	} {
		got, ok := impl.CostOf(c.weights, c.lengths)
		wantValue(t, fmt.Sprintf("CostOf(%v, %v)", c.weights, c.lengths), got, ok, c.want)
	}
}

func TestMergeRun(t *testing.T) {
	for _, c := range []struct {
		weights []int
		letters int
		want    []int
	}{
		{[]int{1}, 2, nil}, {[]int{100}, 3, nil}, {[]int{3, 5}, 2, []int{8}}, {[]int{3, 5}, 3, []int{8}}, {[]int{1, 1, 2, 4}, 2, []int{2, 4, 8}}, {[]int{4, 2, 1, 1}, 2, []int{2, 4, 8}}, {[]int{1, 2, 1}, 2, []int{2, 4}}, {[]int{1, 2, 1}, 3, []int{4}},
		{[]int{1, 1, 2, 4}, 3, []int{2, 8}}, {[]int{5, 1, 4, 2, 3}, 3, []int{6, 15}}, {[]int{6, 5, 4, 3, 2, 1}, 3, []int{3, 10, 21}}, {[]int{7, 7, 7, 7}, 2, []int{14, 14, 28}}, {[]int{7, 7, 7, 7}, 3, []int{14, 28}}, {[]int{9, 9, 9, 9, 9}, 3, []int{27, 45}},
		{steepWeights, 2, []int{2, 3, 5, 8, 13, 21, 34, 55, 89, 144, 233}}, {slices.Repeat([]int{100}, 12), 3, []int{200, 300, 300, 300, 600, 1200}}, {slices.Repeat([]int{100}, 12), 2, []int{200, 200, 200, 200, 200, 200, 400, 400, 400, 800, 1200}}, {slices.Repeat([]int{1}, 11), 3, []int{3, 3, 3, 5, 11}},
	} {
		got, ok := impl.MergeRun(c.weights, c.letters)
		wantList(t, fmt.Sprintf("MergeRun(%v, %d)", c.weights, c.letters), got, ok, c.want)
	}
}

// Promise 7: sums that are merged are the least cost of all lengths that fit.
func TestSumsThatAreMergedAreTheLeastCost(t *testing.T) {
	for _, weights := range someWeights(impl.MaxSearched) {
		for letters := 2; letters <= 3; letters++ {
			call := fmt.Sprintf("(%v, %d)", weights, letters)
			_, least := cheapest(weights, fittingFor(len(weights), letters))
			cost, ok := impl.BestCost(weights, letters)
			wantValue(t, "BestCost"+call, cost, ok, least)
			sums, ok := impl.MergeRun(weights, letters)
			wantList(t, "MergeRun"+call, sums, ok, mergeRun(weights, letters))
			if len(weights) > 1 {
				wantValue(t, "sums of MergeRun"+call, total(sums), ok, least)
			}
		}
	}
}

func TestBestCost(t *testing.T) {
	for _, c := range []struct {
		weights []int
		letters int
		want    int
	}{
		{[]int{1}, 2, 1}, {[]int{1}, 3, 1}, {[]int{100}, 2, 100}, {[]int{100}, 3, 100}, {[]int{1, 1, 2, 4}, 2, 14}, {[]int{1, 1, 2, 4}, 3, 10}, {[]int{1, 2, 1}, 2, 6}, {[]int{1, 2, 1}, 3, 4}, {[]int{3, 5}, 2, 8}, {[]int{3, 5}, 3, 8},
		{steepWeights, 2, 607}, {slices.Repeat([]int{100}, 12), 2, 4400}, {slices.Repeat([]int{100}, 12), 3, 2900}, {slices.Repeat([]int{1}, 11), 3, 25},
	} {
		got, ok := impl.BestCost(c.weights, c.letters)
		wantValue(t, fmt.Sprintf("BestCost(%v, %d)", c.weights, c.letters), got, ok, c.want)
	}
}

func TestBestLengthsAreTheCheapestOfAll(t *testing.T) {
	for _, weights := range someWeights(impl.MaxSearched) {
		for letters := 2; letters <= 3; letters++ {
			call := fmt.Sprintf("(%v, %d)", weights, letters)
			lists := fittingFor(len(weights), letters)
			best, _ := cheapest(weights, lists)
			first, ok := impl.FirstBest(weights, letters)
			wantList(t, "FirstBest"+call, first, ok, best[0])
			number, ok := impl.CountBest(weights, letters)
			wantValue(t, "CountBest"+call, number, ok, len(best))
			for i, l := range lists {
				if i%50 == 0 || slices.Equal(l, best[len(best)-1]) || slices.Equal(l, best[0]) {
					checkAreBest(t, weights, l, letters, slices.ContainsFunc(best, func(b []int) bool { return slices.Equal(b, l) }))
				}
			}
		}
	}
}

func checkAreBest(t *testing.T, weights []int, lengths []int, letters int, want bool) {
	t.Helper()
	got, ok := impl.AreBest(weights, lengths, letters)
	wantValue(t, fmt.Sprintf("AreBest(%v, %v, %d)", weights, lengths, letters), got, ok, want)
}

func TestFirstBestAndCountBest(t *testing.T) {
	for _, c := range []struct {
		weights []int
		letters int
		first   []int
		number  int
	}{
		{[]int{1}, 2, []int{1}, 1}, {[]int{100}, 3, []int{1}, 1}, {[]int{1, 1}, 2, []int{1, 1}, 1}, {[]int{1, 1}, 3, []int{1, 1}, 1}, {[]int{1, 1, 1}, 2, []int{1, 2, 2}, 3}, {[]int{1, 1, 1}, 3, []int{1, 1, 1}, 1},
		{[]int{1, 1, 2, 4}, 2, []int{3, 3, 2, 1}, 1}, {[]int{1, 1, 2, 2}, 2, []int{2, 2, 2, 2}, 3}, {[]int{1, 1, 1, 1}, 3, []int{1, 1, 2, 2}, 6}, {[]int{1, 2, 1}, 2, []int{2, 1, 2}, 1},
		{[]int{1, 1, 1, 1, 1, 1}, 2, []int{2, 2, 3, 3, 3, 3}, 15}, {[]int{100, 100, 100, 100, 100, 100}, 3, []int{1, 2, 2, 2, 2, 2}, 6}, {[]int{1, 1, 2, 4, 8, 16}, 2, []int{5, 5, 4, 3, 2, 1}, 1},
	} {
		call := fmt.Sprintf("(%v, %d)", c.weights, c.letters)
		first, ok := impl.FirstBest(c.weights, c.letters)
		wantList(t, "FirstBest"+call, first, ok, c.first)
		number, ok := impl.CountBest(c.weights, c.letters)
		wantValue(t, "CountBest"+call, number, ok, c.number)
	}
}

func TestMoreThanMaxSearchedWeightsAreNotSearched(t *testing.T) {
	for n := 1; n <= impl.MaxSet; n++ {
		weights := slices.Repeat([]int{1}, n)
		for letters := 2; letters <= 3; letters++ {
			call := fmt.Sprintf("(%v, %d)", weights, letters)
			first, ok := impl.FirstBest(weights, letters)
			number, okNumber := impl.CountBest(weights, letters)
			lengths, okLengths := impl.OrderedLengths(weights)
			if n <= impl.MaxSearched {
				wantValue(t, "length of FirstBest"+call, len(first), ok, n)
				wantValue(t, "CountBest"+call+" > 0", number > 0, okNumber, true)
				wantValue(t, "length of OrderedLengths"+call, len(lengths), okLengths, n)
				continue
			}
			wantNoList(t, "FirstBest"+call, first, ok)
			wantNoValue(t, "CountBest"+call, number, okNumber)
			wantNoList(t, "OrderedLengths"+call, lengths, okLengths)
			if _, ok := impl.BestCost(weights, letters); !ok {
				t.Errorf("BestCost%s fails", call)
			}
		}
	}
}

func TestAreBest(t *testing.T) {
	for _, c := range []struct {
		weights, lengths []int
		letters          int
		want             bool
	}{
		{[]int{5}, []int{1}, 2, true}, {[]int{5}, []int{2}, 2, false}, {[]int{5}, []int{11}, 3, false}, {[]int{1, 1, 2, 4}, []int{3, 3, 2, 1}, 2, true}, {[]int{1, 1, 2, 4}, []int{1, 2, 3, 3}, 2, false}, {[]int{1, 1, 2, 4}, []int{2, 2, 2, 2}, 2, false},
		{[]int{1, 1, 2, 2}, []int{2, 2, 2, 2}, 2, true}, {[]int{1, 1, 2, 2}, []int{3, 3, 2, 1}, 2, true}, {[]int{1, 1, 2, 2}, []int{3, 3, 1, 2}, 2, true},
		// These cost less, or the same, but do not fit.
		{[]int{1, 1}, []int{1, 1}, 2, true}, {[]int{1, 1, 1}, []int{1, 1, 1}, 2, false}, {[]int{1, 1, 1}, []int{1, 1, 1}, 3, true}, {[]int{1, 1, 1}, []int{1, 1, 3}, 2, false}, {[]int{1, 1, 1, 1}, []int{1, 1, 1, 3}, 3, false},
		{steepWeights, steepLengths, 2, true}, {steepWeights, []int{11, 10, 11, 9, 8, 7, 6, 5, 4, 3, 2, 1}, 2, true}, {steepWeights, []int{11, 11, 11, 9, 8, 7, 6, 5, 4, 3, 2, 1}, 2, false}, {steepWeights, []int{11, 10, 10, 9, 8, 7, 6, 5, 4, 3, 2, 1}, 2, false}, {steepWeights, steepLengths, 3, false},
	} {
		checkAreBest(t, c.weights, c.lengths, c.letters, c.want)
	}
}

// Lengths of all numbers of weights: no others cost less, whatever room is left.
func TestBestWithin(t *testing.T) {
	for i, weights := range someWeights(impl.MaxSet) {
		for letters := 2; letters <= 3; letters++ {
			for most := 1; most <= impl.MaxDeep; most++ {
				if most > 4 && i%20 > 0 || most > 7 && letters == 3 && i%80 > 0 {
					continue
				}
				call := fmt.Sprintf("BestWithin(%v, %d, %d)", weights, letters, most)
				want, found := leastWithin(weights, letters, most)
				got, ok := impl.BestWithin(weights, letters, most)
				if !found {
					wantNoValue(t, call, got, ok)
				} else {
					wantValue(t, call, got, ok, want)
				}
			}
		}
	}
}

// No lengths are bounded where they may be as great as the number of weights.
func TestBestCostIsThatWithinMaxDeep(t *testing.T) {
	for _, weights := range someWeights(impl.MaxSet) {
		for letters := 2; letters <= 3; letters++ {
			call := fmt.Sprintf("(%v, %d)", weights, letters)
			best, ok := impl.BestCost(weights, letters)
			wantValue(t, "BestCost"+call, best, ok, max(weights[0], total(mergeRun(weights, letters))))
			within, ok := impl.BestWithin(weights, letters, impl.MaxDeep)
			wantValue(t, "BestWithin"+call, within, ok, best)
			if least := max(len(weights)-1, 1); least < impl.MaxDeep {
				within, ok = impl.BestWithin(weights, letters, least)
				wantValue(t, "BestWithin"+call+" of fewer", within, ok, best)
			}
		}
	}
}

func TestBestWithinOfTheDocument(t *testing.T) {
	ones := func(n int) []int { return slices.Repeat([]int{1}, n) }
	for _, c := range []struct {
		weights       []int
		letters, most int
		want          int
	}{
		{[]int{7}, 2, 1, 7}, {[]int{7}, 3, 11, 7}, {[]int{1, 1, 2, 4}, 2, 2, 16}, {[]int{1, 1, 2, 4}, 2, 3, 14}, {[]int{1, 1, 2, 4}, 2, 11, 14}, {[]int{4, 2, 1, 1}, 2, 2, 16}, {steepWeights, 2, 11, 607}, {steepWeights, 2, 10, 607}, {steepWeights, 2, 6, 607}, {steepWeights, 2, 5, 623}, {lastWeights, 2, 11, 783}, {lastWeights, 2, 10, 783}, {lastWeights, 2, 9, 784},
		{ones(2), 2, 1, 2}, {ones(3), 3, 1, 3}, {ones(4), 2, 2, 8}, {ones(8), 2, 3, 24}, {ones(9), 3, 2, 18}, {ones(12), 2, 4, 44}, {ones(12), 3, 3, 29}, {[]int{1, 100, 1, 100, 1}, 3, 2, 206},
	} {
		got, ok := impl.BestWithin(c.weights, c.letters, c.most)
		wantValue(t, fmt.Sprintf("BestWithin(%v, %d, %d)", c.weights, c.letters, c.most), got, ok, c.want)
	}
	for _, c := range []struct{ n, letters, most int }{{3, 2, 1}, {4, 3, 1}, {5, 2, 2}, {10, 3, 2}, {9, 2, 3}, {12, 2, 3}, {12, 3, 2}} {
		got, ok := impl.BestWithin(ones(c.n), c.letters, c.most)
		wantNoValue(t, fmt.Sprintf("BestWithin(%v, %d, %d)", ones(c.n), c.letters, c.most), got, ok)
	}
}

func TestWordsFor(t *testing.T) {
	for _, c := range []struct {
		lengths []int
		letters int
		want    string
	}{
		{[]int{1}, 2, "a"}, {[]int{8}, 3, "aaaaaaaa"}, {[]int{1, 1}, 2, "a b"}, {[]int{3, 3, 2, 1}, 2, "bba bbb ba a"}, {[]int{1, 2, 3}, 2, "a ba bba"}, {[]int{2, 1, 2}, 2, "ba a bb"}, {[]int{2, 1, 2, 1, 2}, 3, "ca a cb b cc"}, {[]int{3, 1, 2}, 3, "bba a ba"},
		{[]int{2, 2, 2, 2}, 2, "aa ab ba bb"}, {[]int{8, 7, 6, 5, 4, 3, 2, 1, 8}, 2, "bbbbbbba bbbbbba bbbbba bbbba bbba bba ba a bbbbbbbb"}, {[]int{3, 1, 1, 3}, 3, "caa a b cab"},
	} {
		got, ok := impl.WordsFor(c.lengths, c.letters)
		wantList(t, fmt.Sprintf("WordsFor(%v, %d)", c.lengths, c.letters), got, ok, list(c.want))
	}
	for _, c := range []struct {
		lengths []int
		letters int
	}{
		{[]int{1, 1, 1}, 2}, {[]int{1, 1, 8}, 2}, {[]int{8, 1, 1, 1}, 3}, {[]int{2, 1, 3, 3, 8}, 2}, {slices.Repeat([]int{3}, 9), 2}, {slices.Repeat([]int{2}, 10), 3}, {[]int{9}, 2}, {[]int{9}, 3}, {[]int{11}, 2}, {[]int{1, 9}, 2}, {[]int{9, 8}, 3}, {[]int{1, 2, 3, 11}, 3},
	} {
		got, ok := impl.WordsFor(c.lengths, c.letters)
		wantNoList(t, fmt.Sprintf("WordsFor(%v, %d)", c.lengths, c.letters), got, ok)
	}
}

// mixedOrders lists lengths of all numbers up to MaxSet in any order, always the same ones, many of which fit.
func mixedOrders(number int, most int) [][]int {
	random := rand.New(rand.NewSource(5))
	var lists [][]int
	for range number {
		lengths := make([]int, 1+random.Intn(impl.MaxSet))
		least := 1 + random.Intn(4)
		for i := range lengths {
			lengths[i] = least + random.Intn(most+1-least)
		}
		lists = append(lists, lengths)
	}
	return lists
}

func TestWordsForTakesLengthsBySize(t *testing.T) {
	lists := mixedOrders(1500, impl.MaxLength)
	for n := 1; n <= 4; n++ {
		lists = append(lists, numberLists(n, 4)...)
	}
	for _, lengths := range lists {
		for letters := 2; letters <= 3; letters++ {
			call := fmt.Sprintf("WordsFor(%v, %d)", lengths, letters)
			got, ok := impl.WordsFor(lengths, letters)
			code, made := firstPrefixCode(letters, slices.Sorted(slices.Values(lengths)))
			if made != fitIn(lengths, letters) {
				t.Fatalf("first prefix code of %v = %q", lengths, code)
			}
			if !made {
				wantNoList(t, call, got, ok)
				continue
			}
			wantValue(t, "lengths of "+call, fmt.Sprint(lengthsOf(got)), ok, fmt.Sprint(lengths))
			slices.SortStableFunc(got, func(s, other string) int { return len(s) - len(other) })
			wantList(t, "sorted "+call, got, ok, code)
		}
	}
}

// treeDepths lists the depths of the leaves, from left to right, of all trees with n leaves in which each other node has two branches.
func treeDepths(n int, root int) [][]int {
	if n == 1 {
		return [][]int{{root}}
	}
	var all [][]int
	for k := 1; k < n; k++ {
		others := treeDepths(n-k, root+1)
		for _, left := range treeDepths(k, root+1) {
			for _, right := range others {
				all = append(all, slices.Concat(left, right))
			}
		}
	}
	return all
}

// firstTexts tries texts one behind the other, in their order, until all lengths have one.
func firstTexts(before []string, lengths []int) ([]string, bool) {
	if len(lengths) == 0 {
		return before, true
	}
	for _, s := range allOfLength(2, lengths[0]) {
		if canBeBehind(before, s) {
			if texts, found := firstTexts(append(slices.Clone(before), s), lengths[1:]); found {
				return texts, true
			}
		}
	}
	return nil, false
}

func canBeBehind(before []string, s string) bool {
	for _, other := range before {
		if s <= other || strings.HasPrefix(s, other) || strings.HasPrefix(other, s) {
			return false
		}
	}
	return true
}

// nextText returns the first text of a length behind another one: the last letter that is an a becomes a b, and all behind it are a.
func nextText(before string, length int) (string, bool) {
	k := strings.LastIndex(before[:min(length, len(before))], "a")
	if k < 0 {
		return "", false
	}
	return before[:k] + "b" + strings.Repeat("a", length-k-1), true
}

func orderedTexts(lengths []int) ([]string, bool) {
	texts := []string{strings.Repeat("a", lengths[0])}
	for _, length := range lengths[1:] {
		next, found := nextText(texts[len(texts)-1], length)
		if !found {
			return nil, false
		}
		texts = append(texts, next)
	}
	return texts, true
}

func checkOrdered(t *testing.T, lengths []int, want []string, ordered bool) {
	t.Helper()
	can, ok := impl.CanBeOrdered(lengths)
	wantValue(t, fmt.Sprintf("CanBeOrdered(%v)", lengths), can, ok, ordered)
	words, ok := impl.OrderedWords(lengths)
	if ordered {
		wantList(t, fmt.Sprintf("OrderedWords(%v)", lengths), words, ok, want)
	} else {
		wantNoList(t, fmt.Sprintf("OrderedWords(%v)", lengths), words, ok)
	}
}

func TestCanBeOrderedAndOrderedWords(t *testing.T) {
	for _, c := range []struct {
		lengths []int
		want    string
	}{
		{[]int{1}, "a"}, {[]int{11}, "aaaaaaaaaaa"}, {[]int{1, 1}, "a b"}, {[]int{1, 2, 2}, "a ba bb"}, {[]int{2, 2, 1}, "aa ab b"}, {[]int{2, 1}, "aa b"}, {[]int{1, 11}, "a baaaaaaaaaa"}, {[]int{11, 1}, "aaaaaaaaaaa b"}, {[]int{2, 3, 3, 1}, "aa aba abb b"}, {[]int{3, 2, 1}, "aaa ab b"},
		{[]int{2, 3, 2, 2}, "aa aba ba bb"}, {[]int{3, 1, 3}, "aaa b"}, {steepLengths, "aaaaaaaaaaa aaaaaaaaaab aaaaaaaaab aaaaaaaab aaaaaaab aaaaaab aaaaab aaaab aaab aab ab b"}, {slices.Repeat([]int{4}, 3), "aaaa aaab aaba"},
	} {
		want := list(c.want)
		checkOrdered(t, c.lengths, want, len(want) == len(c.lengths))
	}
	for _, lengths := range [][]int{{2, 1, 2}, {2, 1, 11}, {1, 3, 2, 3}, {3, 2, 2, 3, 2}, {11, 1, 11}, {3, 3, 1, 2}, {11, 10, 9, 8, 7, 6, 5, 4, 3, 2, 1, 11}} {
		wantValue(t, fmt.Sprintf("%v fit", lengths), fitIn(lengths, 2), true, true)
		checkOrdered(t, lengths, nil, false)
	}
	for _, lengths := range [][]int{{1, 1, 1}, {1, 1, 11}, {2, 2, 1, 11}, {1, 2, 2, 2}, slices.Repeat([]int{3}, 9), slices.Repeat([]int{1}, 12)} {
		wantValue(t, fmt.Sprintf("%v fit", lengths), fitIn(lengths, 2), true, false)
		checkOrdered(t, lengths, nil, false)
	}
}

func TestOrderedWordsAreTheFirstTexts(t *testing.T) {
	for _, lengths := range slices.Concat(numberLists(1, 4), numberLists(2, 4), numberLists(3, 4), numberLists(4, 3), numberLists(5, 3)) {
		want, ordered := firstTexts(nil, lengths)
		checkOrdered(t, lengths, want, ordered)
		next, found := orderedTexts(lengths)
		wantList(t, "next texts", next, found == ordered, want)
	}
	for _, lengths := range slices.Concat(mixedOrders(4000, impl.MaxDeep), numberLists(6, 4), treeDepths(7, 0), treeDepths(12, 0)) {
		want, ordered := orderedTexts(lengths)
		checkOrdered(t, lengths, want, ordered)
	}
}

// Lengths that fit are ordered if none is less than the one before; lengths that are ordered fit.
func TestLengthsThatFitCanBeSorted(t *testing.T) {
	for _, lengths := range slices.Concat(mixedOrders(3000, impl.MaxDeep), numberLists(5, 4)) {
		ordered, ok := impl.CanBeOrdered(slices.Sorted(slices.Values(lengths)))
		wantValue(t, fmt.Sprintf("CanBeOrdered(sorted %v)", lengths), ordered, ok, fitIn(lengths, 2))
		if ordered, _ = impl.CanBeOrdered(lengths); ordered && !fitIn(lengths, 2) {
			t.Errorf("CanBeOrdered(%v) = true", lengths)
		}
	}
}

// Promise 7: ordered codes cost what a best split tells, which is the least cost of all trees.
func TestOrderedCodesCostWhatABestSplitTells(t *testing.T) {
	trees := [][][]int{nil, {{1}}}
	for n := 2; n <= impl.MaxSet; n++ {
		trees = append(trees, treeDepths(n, 0))
	}
	for i, weights := range someWeights(impl.MaxSet) {
		if len(weights) > 9 && i%4 > 0 {
			continue
		}
		_, least := cheapest(weights, trees[len(weights)])
		cost, ok := impl.OrderedCost(weights)
		wantValue(t, fmt.Sprintf("OrderedCost(%v)", weights), cost, ok, least)
		best, ok := impl.BestCost(weights, 2)
		if !ok || best > cost {
			t.Errorf("BestCost(%v, 2) = %d, %v; want at most %d", weights, best, ok, cost)
		}
		checkSplits(t, weights, cost)
	}
}

// freeOfOne returns OrderedCost, but 0 for one weight.
func freeOfOne(weights []int) int {
	if len(weights) == 1 {
		return 0
	}
	cost, _ := impl.OrderedCost(weights)
	return cost
}

func checkSplits(t *testing.T, weights []int, cost int) {
	t.Helper()
	least := -1
	for k := 1; k < len(weights); k++ {
		split, ok := impl.SplitCost(weights, k)
		wantValue(t, fmt.Sprintf("SplitCost(%v, %d)", weights, k), split, ok, total(weights)+freeOfOne(weights[:k])+freeOfOne(weights[k:]))
		if least < 0 || split < least {
			least = split
		}
	}
	if len(weights) > 1 && least != cost {
		t.Errorf("OrderedCost(%v) = %d; the best split costs %d", weights, cost, least)
	}
}

// All lengths, not only those of trees, are tried.
func TestOrderedLengthsAreTheFirstCheapestOnes(t *testing.T) {
	ordered := [][][]int{nil}
	for n, greatest := range []int{11, 11, 6, 6, 5, 5} {
		ordered = append(ordered, slices.DeleteFunc(numberLists(n+1, greatest), func(l []int) bool {
			_, is := orderedTexts(l)
			return !is
		}))
	}
	for _, weights := range someWeights(impl.MaxSearched) {
		best, least := cheapest(weights, ordered[len(weights)])
		cost, ok := impl.OrderedCost(weights)
		wantValue(t, fmt.Sprintf("OrderedCost(%v)", weights), cost, ok, least)
		lengths, ok := impl.OrderedLengths(weights)
		wantList(t, fmt.Sprintf("OrderedLengths(%v)", weights), lengths, ok, best[0])
	}
}

func TestOrderedCostAndLengths(t *testing.T) {
	for _, c := range []struct {
		weights []int
		cost    int
		lengths []int
	}{
		{[]int{1}, 1, []int{1}}, {[]int{100}, 100, []int{1}}, {[]int{3, 5}, 8, []int{1, 1}}, {[]int{1, 2, 1}, 7, []int{1, 2, 2}}, {[]int{1, 1, 1}, 5, []int{1, 2, 2}}, {[]int{1, 1, 2}, 6, []int{2, 2, 1}}, {[]int{1, 1, 1, 1}, 8, []int{2, 2, 2, 2}},
		{[]int{1, 1, 2, 4}, 14, []int{3, 3, 2, 1}}, {[]int{4, 2, 1, 1}, 14, []int{1, 2, 3, 3}}, {[]int{1, 100, 1, 100}, 404, []int{2, 2, 2, 2}}, {[]int{1, 1, 1, 1, 1, 1}, 16, []int{2, 2, 3, 3, 3, 3}}, {[]int{100, 1, 1, 1, 1, 1}, 117, []int{1, 3, 3, 3, 4, 4}},
	} {
		cost, ok := impl.OrderedCost(c.weights)
		wantValue(t, fmt.Sprintf("OrderedCost(%v)", c.weights), cost, ok, c.cost)
		lengths, ok := impl.OrderedLengths(c.weights)
		wantList(t, fmt.Sprintf("OrderedLengths(%v)", c.weights), lengths, ok, c.lengths)
	}
	cost, ok := impl.OrderedCost(steepWeights)
	wantValue(t, "OrderedCost of steep weights", cost, ok, 607)
	cost, ok = impl.OrderedCost(slices.Repeat([]int{100}, 12))
	wantValue(t, "OrderedCost of the greatest weights", cost, ok, 4400)
}

func TestSplitCost(t *testing.T) {
	for _, c := range []struct {
		weights []int
		k, want int
	}{
		{[]int{3, 5}, 1, 8}, {[]int{1, 2, 1}, 1, 7}, {[]int{1, 2, 1}, 2, 7}, {[]int{1, 1, 2, 4}, 1, 18}, {[]int{1, 1, 2, 4}, 2, 16}, {[]int{1, 1, 2, 4}, 3, 14}, {steepWeights, 11, 607}, {slices.Repeat([]int{100}, 12), 1, 5100}, {slices.Repeat([]int{100}, 12), 6, 4400},
	} {
		got, ok := impl.SplitCost(c.weights, c.k)
		wantValue(t, fmt.Sprintf("SplitCost(%v, %d)", c.weights, c.k), got, ok, c.want)
	}
	for _, weights := range [][]int{{1}, {100}, {3, 5}, {1, 2, 1}, steepWeights} {
		for _, k := range []int{-1 << 63, -1, 0, len(weights), len(weights) + 1, 1<<63 - 1} {
			got, ok := impl.SplitCost(weights, k)
			wantNoValue(t, fmt.Sprintf("SplitCost(%v, %d)", weights, k), got, ok)
		}
	}
}

// evenCost merges n weights 1: sums come behind all numbers that are there, so that the least ones are always in front.
func evenCost(n int, letters int) int {
	numbers := slices.Repeat([]int{1}, n)
	cost, take := 0, letters
	if letters == 3 && n%2 == 0 {
		take = 2
	}
	for len(numbers) > 1 {
		sum := total(numbers[:take])
		cost += sum
		numbers = append(numbers[take:], sum)
		take = letters
	}
	return max(cost, 1)
}

func TestEvenCost(t *testing.T) {
	for _, c := range []struct{ n, letters, want int }{
		{1, 2, 1}, {1, 3, 1}, {2, 2, 2}, {2, 3, 2}, {3, 2, 5}, {3, 3, 3}, {4, 2, 8}, {4, 3, 6}, {5, 2, 12}, {5, 3, 8}, {8, 2, 24}, {9, 3, 18}, {10, 3, 22}, {11, 3, 25}, {524288, 2, 9961472}, {524287, 2, 9961452}, {531441, 3, 6377292}, {1000000, 2, 19951424}, {1000000, 3, 12702839}, {999999, 3, 12702825},
	} {
		got, ok := impl.EvenCost(c.n, c.letters)
		wantValue(t, fmt.Sprintf("EvenCost(%d, %d)", c.n, c.letters), got, ok, c.want)
	}
	for letters := 2; letters <= 3; letters++ {
		for _, n := range []int{-1 << 63, -1000000, -1, 0, 1000001, 1 << 40, 1<<63 - 1} {
			got, ok := impl.EvenCost(n, letters)
			wantNoValue(t, fmt.Sprintf("EvenCost(%d, %d)", n, letters), got, ok)
		}
	}
}

func TestEvenCostIsThatOfEqualWeights(t *testing.T) {
	for letters := 2; letters <= 3; letters++ {
		for n := 1; n <= impl.MaxSet; n++ {
			best, _ := impl.BestCost(slices.Repeat([]int{1}, n), letters)
			got, ok := impl.EvenCost(n, letters)
			wantValue(t, fmt.Sprintf("EvenCost(%d, %d)", n, letters), got, ok, best)
		}
		numbers := []int{19683, 59048, 59049, 59050, 65535, 65536, 65537, 131072, 177147, 262143, 524287, 524288, 524289, 531440, 531441, 531442, 786432, 797161, 797162, 999999, 1000000}
		for n := 1; n <= 300; n++ {
			numbers = append(numbers, n, n*n)
		}
		for _, n := range numbers {
			got, ok := impl.EvenCost(n, letters)
			wantValue(t, fmt.Sprintf("EvenCost(%d, %d)", n, letters), got, ok, evenCost(n, letters))
		}
	}
}

// wantNoneFor calls all functions that have weights, which or whose letters are invalid.
func wantNoneFor(t *testing.T, weights []int, letters int) {
	t.Helper()
	call := fmt.Sprintf("(%v, %d)", weights, letters)
	sums, ok := impl.MergeRun(weights, letters)
	wantNoList(t, "MergeRun"+call, sums, ok)
	cost, ok := impl.BestCost(weights, letters)
	wantNoValue(t, "BestCost"+call, cost, ok)
	lengths, ok := impl.FirstBest(weights, letters)
	wantNoList(t, "FirstBest"+call, lengths, ok)
	number, ok := impl.CountBest(weights, letters)
	wantNoValue(t, "CountBest"+call, number, ok)
	for _, other := range [][]int{weights, {1}, {1, 1}, slices.Repeat([]int{1}, len(weights)), slices.Repeat([]int{11}, len(weights)), nil} {
		are, ok := impl.AreBest(weights, other, letters)
		wantNoValue(t, "AreBest"+call, are, ok)
	}
	for _, most := range []int{1, 4, 11} {
		within, ok := impl.BestWithin(weights, letters, most)
		wantNoValue(t, "BestWithin"+call, within, ok)
	}
}

func TestWeightsThatAreRefused(t *testing.T) {
	for _, weights := range noWeights {
		for letters := 2; letters <= 3; letters++ {
			wantNoneFor(t, weights, letters)
		}
		call := fmt.Sprintf("(%v)", weights)
		cost, ok := impl.OrderedCost(weights)
		wantNoValue(t, "OrderedCost"+call, cost, ok)
		lengths, ok := impl.OrderedLengths(weights)
		wantNoList(t, "OrderedLengths"+call, lengths, ok)
		for _, other := range [][]int{weights, {1}, {1, 1}, slices.Repeat([]int{1}, len(weights)), slices.Repeat([]int{5}, len(weights)), nil} {
			cost, ok = impl.CostOf(weights, other)
			wantNoValue(t, "CostOf"+call, cost, ok)
		}
		for k := range 3 {
			split, ok := impl.SplitCost(weights, k)
			wantNoValue(t, "SplitCost"+call, split, ok)
		}
	}
}

func TestLettersOfBestCodesThatAreRefused(t *testing.T) {
	for _, letters := range noLetters {
		for _, numbers := range [][]int{{1}, {1, 1}, {1, 1, 2, 4}, {3, 3, 2, 1}, nil, {0}} {
			wantNoneFor(t, numbers, letters)
			words, ok := impl.WordsFor(numbers, letters)
			wantNoList(t, fmt.Sprintf("WordsFor(%v, %d)", numbers, letters), words, ok)
		}
		for _, n := range []int{0, 1, 5, 1000000} {
			cost, ok := impl.EvenCost(n, letters)
			wantNoValue(t, fmt.Sprintf("EvenCost(%d, %d)", n, letters), cost, ok)
		}
	}
}

func TestLengthsOfBestCodesThatAreRefused(t *testing.T) {
	for _, lengths := range noDeepLengths {
		call := fmt.Sprintf("(%v)", lengths)
		can, ok := impl.CanBeOrdered(lengths)
		wantNoValue(t, "CanBeOrdered"+call, can, ok)
		words, ok := impl.OrderedWords(lengths)
		wantNoList(t, "OrderedWords"+call, words, ok)
		weights := slices.Repeat([]int{1}, len(lengths))
		cost, ok := impl.CostOf(weights, lengths)
		wantNoValue(t, "CostOf"+call, cost, ok)
		for letters := 2; letters <= 3; letters++ {
			are, ok := impl.AreBest(weights, lengths, letters)
			wantNoValue(t, "AreBest"+call, are, ok)
			words, ok = impl.WordsFor(lengths, letters)
			wantNoList(t, "WordsFor"+call, words, ok)
		}
	}
}

func TestListsOfDifferentLengthsAreRefused(t *testing.T) {
	for _, c := range [][2][]int{{{1}, nil}, {{1}, {1, 1}}, {{1, 1}, {1}}, {{1, 2, 1}, {1, 2}}, {{1, 2}, {1, 2, 2}}, {steepWeights, steepLengths[1:]}, {steepWeights[1:], steepLengths}} {
		cost, ok := impl.CostOf(c[0], c[1])
		wantNoValue(t, fmt.Sprintf("CostOf(%v, %v)", c[0], c[1]), cost, ok)
		for letters := 2; letters <= 3; letters++ {
			are, ok := impl.AreBest(c[0], c[1], letters)
			wantNoValue(t, fmt.Sprintf("AreBest(%v, %v, %d)", c[0], c[1], letters), are, ok)
		}
	}
}

func TestGreatestLengthsThatAreRefused(t *testing.T) {
	for _, weights := range [][]int{{1}, {1, 2, 1}, steepWeights} {
		for letters := 2; letters <= 3; letters++ {
			for _, most := range []int{-1 << 63, -11, -1, 0, 12, 13, 1<<63 - 1} {
				got, ok := impl.BestWithin(weights, letters, most)
				wantNoValue(t, fmt.Sprintf("BestWithin(%v, %d, %d)", weights, letters, most), got, ok)
			}
		}
	}
}
