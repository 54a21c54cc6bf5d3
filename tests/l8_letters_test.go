package tests

import (
	"fmt"
	"math/big"
	"slices"
	"strings"
	"testing"

	"loop.example/g01164/impl"
)

var (
	// Lists that are neither weights nor counts: not three numbers, and numbers that are negative or so great that their sum wraps around.
	noLetterNumbers = [][]int{
		nil, {0}, {1}, {1, 1}, {1, 1, 1, 1}, {1, 1, 0, 0}, {0, 1, 1, -1}, make([]int, 1000),
		{-1, 1, 1}, {1, -1, 1}, {1, 1, -1}, {-1, 0, 0}, {0, 0, -1}, {12, -1, 1}, {-5, 6, 7}, {-1 << 63, 0, 1},
		{1<<63 - 1, 1<<63 - 1, 3}, {1<<63 - 1, -1 << 63, 2}, {1 << 62, 1 << 62, 1}, {1<<63 - 1, 1, 0}, {1, 0, 1<<63 - 1}, {1 << 32, 0, 0},
	}

	noLetterWeights = append([][]int{{0, 0, 0}, {11, 0, 0}, {0, 11, 0}, {0, 0, 11}, {4, 4, 3}, {10, 0, 1}, {1, 1, 9}}, noLetterNumbers...)

	noCounts = append([][]int{{13, 0, 0}, {0, 13, 0}, {0, 0, 13}, {5, 4, 4}, {12, 0, 1}, {1, 6, 6}}, noLetterNumbers...)
)

// threeNumbers lists all lists of three numbers of at least 0 with a sum of at most most, in lexicographic order.
func threeNumbers(most int) [][]int {
	lists := numberLists(3, most+1)
	for _, l := range lists {
		for i := range l {
			l[i]--
		}
	}
	return slices.DeleteFunc(lists, func(l []int) bool { return total(l) > most })
}

func letterWeights(most int) [][]int {
	return threeNumbers(most)[1:]
}

// countsOf runs through the letters of a word.
func countsOf(s string) [3]int {
	var counts [3]int
	for _, letter := range s {
		counts[letter-'a']++
	}
	return counts
}

func weightOf(s string, weights []int) *big.Rat {
	weight := big.NewRat(1, 1)
	for _, letter := range s {
		weight.Mul(weight, big.NewRat(int64(weights[letter-'a']), int64(total(weights))))
	}
	return weight
}

// weightSum adds up the weights of words, each as often as is told.
func weightSum(words []string, weights []int, often func(string) int) *big.Rat {
	sum := new(big.Rat)
	for _, s := range words {
		weight := weightOf(s, weights)
		sum.Add(sum, weight.Mul(weight, big.NewRat(int64(often(s)), 1)))
	}
	return sum
}

func once(string) int {
	return 1
}

func length(s string) int {
	return len(s)
}

// weightedSets lists small sets, and some of all sizes and letters.
func weightedSets() [][]string {
	return append(smallSets(), mixedSets(600)...)
}

func TestLetterCounts(t *testing.T) {
	for _, c := range []struct {
		set  string
		want [][]int
	}{
		{"", nil}, {"a", [][]int{{1, 0, 0}}}, {"a ba bb", [][]int{{1, 0, 0}, {1, 1, 0}, {0, 2, 0}}}, {"a b c", [][]int{{1, 0, 0}, {0, 1, 0}, {0, 0, 1}}},
		{"ab ba", [][]int{{1, 1, 0}, {1, 1, 0}}}, {"c aab abcabcab", [][]int{{0, 0, 1}, {2, 1, 0}, {3, 3, 2}}}, {"aaaaaaaa cccccccc", [][]int{{8, 0, 0}, {0, 0, 8}}},
	} {
		got, ok := impl.LetterCounts(list(c.set))
		wantLists(t, "LetterCounts("+c.set+")", got, ok, c.want)
	}
	for _, set := range append(weightedSets(), twelve()) {
		var want [][]int
		for _, s := range set {
			counts := countsOf(s)
			want = append(want, counts[:])
		}
		got, ok := impl.LetterCounts(set)
		wantLists(t, fmt.Sprintf("LetterCounts(%q)", set), got, ok, want)
	}
}

// areAlike takes away from the words of one set one with the same counts for each word of the other one.
func areAlike(a []string, b []string) bool {
	left := slices.Clone(b)
	for _, s := range a {
		i := slices.IndexFunc(left, func(word string) bool { return countsOf(word) == countsOf(s) })
		if i < 0 {
			return false
		}
		left = slices.Delete(left, i, i+1)
	}
	return len(left) == 0
}

func TestAreLetterAlike(t *testing.T) {
	for _, c := range []struct {
		a, b string
		want bool
	}{
		{"", "", true}, {"", "a", false}, {"a", "a", true}, {"a", "b", false}, {"a", "aa", false}, {"ab", "ba", true}, {"abc", "cab", true}, {"aabb", "baba", true},
		{"a ab", "a ba", true}, {"a ba bb", "a ab bb", true}, {"aabbccab", "cbacbaba", true},
		// The words are in another order of counts.
		{"a aac abb", "a bab caa", true}, {"abc aab", "aab cba", true}, {"abb aca", "baa cab", false},
		// The same letters in all, but not in each word.
		{"aa bb", "ab ba", false}, {"a bb", "b ab", false}, {"a b", "ab", false}, {"ab aab", "aa abb", false}, {"a bc", "b ac", false}, {"a aaa", "aa aaaa", false}, {"a bbb", "ab bb", false},
		// The same counts, but not as often.
		{"ab", "ab ba", false}, {"ab ba aab", "ab aab aba", false}, {"ab ba ac", "ab ac ca", false},
	} {
		a, _ := impl.SetOf(list(c.a))
		b, _ := impl.SetOf(list(c.b))
		for _, pair := range [][2][]string{{a, b}, {b, a}} {
			got, ok := impl.AreLetterAlike(pair[0], pair[1])
			wantValue(t, fmt.Sprintf("AreLetterAlike(%q, %q)", pair[0], pair[1]), got, ok, c.want)
		}
	}
	small := slices.DeleteFunc(smallSets(), func(set []string) bool { return len(set) > 2 })
	other := slices.DeleteFunc(subsets(wordsUpTo("abc", 2)[1:]), func(set []string) bool { return len(set) > 3 })
	for _, sets := range [][][]string{small, other, mixedSets(300)} {
		for _, a := range sets {
			for _, b := range sets {
				got, ok := impl.AreLetterAlike(a, b)
				wantValue(t, fmt.Sprintf("AreLetterAlike(%q, %q)", a, b), got, ok, areAlike(a, b))
			}
		}
	}
}

// A set has the same letters backwards.
func TestSetsAreLetterAlikeBackwards(t *testing.T) {
	for _, set := range append(weightedSets(), twelve()) {
		back, _ := impl.ReverseSet(set)
		got, ok := impl.AreLetterAlike(set, back)
		wantValue(t, fmt.Sprintf("AreLetterAlike(%q, %q)", set, back), got, ok, true)
	}
}

func TestWeightOf(t *testing.T) {
	for _, c := range []struct {
		s       string
		weights []int
		want    impl.Ratio
	}{
		{"", []int{1, 0, 0}, ratio(1, 1)}, {"", []int{0, 0, 10}, ratio(1, 1)}, {"", []int{3, 3, 4}, ratio(1, 1)}, {"a", []int{1, 0, 0}, ratio(1, 1)}, {"b", []int{1, 0, 0}, ratio(0, 1)},
		{"ab", []int{1, 1, 0}, ratio(1, 4)}, {"ab", []int{5, 5, 0}, ratio(1, 4)}, {"aab", []int{2, 1, 0}, ratio(4, 27)}, {"abc", []int{1, 2, 3}, ratio(1, 36)}, {"c", []int{1, 1, 0}, ratio(0, 1)}, {"bc", []int{9, 1, 0}, ratio(0, 1)},
		{"cccccccc", []int{0, 0, 10}, ratio(1, 1)}, {"aaaaaaaa", []int{1, 9, 0}, ratio(1, 100000000)}, {"bbbbbbbb", []int{1, 9, 0}, ratio(43046721, 100000000)}, {"abcabcab", []int{3, 3, 4}, ratio(729, 6250000)}, {"aaaaaaaa", []int{1, 1, 0}, ratio(1, 256)},
	} {
		got, ok := impl.WeightOf(c.s, c.weights)
		wantValue(t, fmt.Sprintf("WeightOf(%s, %v)", c.s, c.weights), got, ok, c.want)
	}
	words := append(wordsUpTo("abc", 4), "aaaaaaa", "abacaba", "ccbbaac", "aaaaaaaa", "bbbbbbbb", "cccccccc", "abcabcab", "aaaabbbb", "ccccccca")
	for _, weights := range letterWeights(impl.MaxLetterWeight) {
		for _, s := range words {
			got, ok := impl.WeightOf(s, weights)
			wantValue(t, fmt.Sprintf("WeightOf(%s, %v)", s, weights), got, ok, asRatio(weightOf(s, weights)))
		}
	}
}

func TestWeightOfRefusesWords(t *testing.T) {
	words := append([]string{"aaaaaaaaa", "abcabcabc", "ccccccccc", strings.Repeat("a", 60), strings.Repeat("abc", 20)}, noWordTexts...)
	for _, s := range words {
		for _, weights := range [][]int{{1, 0, 0}, {1, 1, 1}, {0, 0, 10}, {3, 3, 4}, {0, 0, 0}} {
			got, ok := impl.WeightOf(s, weights)
			wantNoValue(t, fmt.Sprintf("WeightOf(%q, %v)", s, weights), got, ok)
		}
	}
}

func TestWeightedSum(t *testing.T) {
	for _, c := range []struct {
		set     string
		weights []int
		want    impl.Ratio
	}{
		{"", []int{1, 1, 0}, ratio(0, 1)}, {"a", []int{1, 0, 0}, ratio(1, 1)}, {"a", []int{0, 1, 0}, ratio(0, 1)}, {"a", []int{1, 1, 1}, ratio(1, 3)}, {"a ba bb", []int{1, 1, 0}, ratio(1, 1)}, {"a ba bb", []int{3, 7, 0}, ratio(1, 1)}, {"a ba bb", []int{1, 1, 1}, ratio(5, 9)},
		{"a b c", []int{2, 3, 5}, ratio(1, 1)}, {"a ab ba", []int{1, 1, 0}, ratio(1, 1)}, {"a ab ba", []int{2, 1, 0}, ratio(10, 9)}, {"a aa", []int{1, 0, 0}, ratio(2, 1)}, {"a aa", []int{0, 0, 1}, ratio(0, 1)}, {"a aa", []int{1, 1, 0}, ratio(3, 4)},
		{"a aa aaa aaaa aaaaa aaaaaa aaaaaaa aaaaaaaa", []int{10, 0, 0}, ratio(8, 1)}, {"aaaaaaaa", []int{1, 9, 0}, ratio(1, 100000000)},
		// A code with the sum 1, and the same with one word more.
		{"a ba bba bbba bbbba bbbbba bbbbbba bbbbbbba bbbbbbbb", []int{1, 1, 0}, ratio(1, 1)}, {"a ba bba bbba bbbba bbbbba bbbbbba aaaaaaaa bbbbbbba bbbbbbbb", []int{1, 1, 0}, ratio(257, 256)}, {"a ba bba bbba bbbba bbbbba bbbbbba aaaaaaaa bbbbbbba bbbbbbbb", []int{1, 9, 0}, ratio(100000001, 100000000)},
	} {
		got, ok := impl.WeightedSum(list(c.set), c.weights)
		wantValue(t, fmt.Sprintf("WeightedSum(%s, %v)", c.set, c.weights), got, ok, c.want)
	}
}

func TestSumsOfWeights(t *testing.T) {
	for i, set := range weightedSets() {
		inner := innerWords(set)
		for k, weights := range letterWeights(impl.MaxLetterWeight) {
			if (i+k)%29 > 0 {
				continue
			}
			call := fmt.Sprintf("(%q, %v)", set, weights)
			got, ok := impl.WeightedSum(set, weights)
			wantValue(t, "WeightedSum"+call, got, ok, asRatio(weightSum(set, weights, once)))
			got, ok = impl.MeanLength(set, weights)
			wantValue(t, "MeanLength"+call, got, ok, asRatio(weightSum(set, weights, length)))
			got, ok = impl.InnerWeight(set, weights)
			wantValue(t, "InnerWeight"+call, got, ok, asRatio(weightSum(inner, weights, once)))
		}
	}
}

// Promise 8: weighted sums of codes are at most one, for all weights, so that none is too heavy.
func TestWeightedSumsOfCodesAreAtMostOne(t *testing.T) {
	codes := slices.DeleteFunc(append(smallSets(), mixedSets(1200)...), func(set []string) bool {
		_, isDouble := firstDouble(set)
		return isDouble
	})
	all := letterWeights(impl.MaxLetterWeight)
	for _, set := range codes {
		for _, weights := range all {
			if got, ok := impl.WeightedSum(set, weights); !ok || got.Num > got.Den || got.Num < 0 || got.Den < 1 {
				t.Fatalf("WeightedSum(%q, %v) = %v, %v for a code", set, weights, got, ok)
			}
		}
		for most := 1; most <= 6; most++ {
			got, ok := impl.FirstTooHeavy(set, most)
			wantNoList(t, fmt.Sprintf("FirstTooHeavy(%q, %d)", set, most), got, ok)
		}
	}
}

// fullCodes lists codes of the first letters letters that are complete: prefix sets, the same ones backwards, and others.
func fullCodes(letters int) [][]string {
	codes := [][]string{splitUpTo(letters, 11)}
	for n := 2; n <= 7; n++ {
		codes = append(codes, completeSets(letters, n)...)
	}
	if letters == 2 {
		// One that is a prefix set on both sides, and one on neither side.
		codes = append(codes, list("ab aaa baa bba bbb aaba aabb baba babb"), list("a ab bba bbab bbbb"))
	}
	for _, set := range codes {
		back, _ := impl.ReverseSet(set)
		codes = append(codes, back)
	}
	return codes
}

// With all weights that no other letter has, the weighted sum of a complete code is 1.
func TestWeightedSumsOfCompleteCodesAreOne(t *testing.T) {
	for letters := 2; letters <= 3; letters++ {
		for _, set := range fullCodes(letters) {
			for _, weights := range letterWeights(impl.MaxLetterWeight) {
				if letters == 2 && weights[2] > 0 {
					continue
				}
				got, ok := impl.WeightedSum(set, weights)
				wantValue(t, fmt.Sprintf("WeightedSum(%q, %v)", set, weights), got, ok, ratio(1, 1))
			}
		}
	}
}

func TestFirstTooHeavy(t *testing.T) {
	steps := "a ba bba bbba bbbba bbbbba bbbbbba aaaaaaaa bbbbbbba bbbbbbbb"
	for _, c := range []struct {
		set  string
		most int
		want []int
	}{
		{"a ab ba", 3, []int{2, 1, 0}}, {"a ab ba", 4, []int{2, 1, 0}}, {"a ab ba", 6, []int{2, 1, 0}}, {"a aa", 1, []int{1, 0, 0}}, {"a aa", 6, []int{1, 0, 0}}, {"a b ab", 2, []int{1, 1, 0}}, {"b bb", 6, []int{0, 1, 0}}, {"c cc", 1, []int{0, 0, 1}},
		{"b c bc", 2, []int{0, 1, 1}}, {"a b c ab", 2, []int{1, 1, 0}}, {"a b c ab bc", 6, []int{0, 1, 1}}, {"a ab abb bab bba", 6, []int{1, 1, 0}}, {"b c ab ba", 3, []int{1, 2, 0}}, {"b c ab ba", 6, []int{1, 2, 0}}, {steps, 1, []int{1, 0, 0}}, {steps, 6, []int{1, 0, 0}},
	} {
		got, ok := impl.FirstTooHeavy(list(c.set), c.most)
		wantList(t, fmt.Sprintf("FirstTooHeavy(%s, %d)", c.set, c.most), got, ok, c.want)
	}
	for _, c := range []struct {
		set  string
		most int
	}{
		// No words, codes, sets that are too heavy just for greater weights, and sets that are no codes though no weights are too heavy.
		{"", 1}, {"", 6}, {"a", 1}, {"a", 6}, {"a ba bb", 6}, {"a b c", 6}, {"a ab ba", 1}, {"a ab ba", 2}, {"a b ab", 1}, {"b c bc", 1}, {"b c ab ba", 2}, {"ab abab", 6}, {"ab ba aba", 6},
	} {
		got, ok := impl.FirstTooHeavy(list(c.set), c.most)
		wantNoList(t, fmt.Sprintf("FirstTooHeavy(%s, %d)", c.set, c.most), got, ok)
	}
}

func TestFirstTooHeavyIsFirstOfAllWeights(t *testing.T) {
	one := big.NewRat(1, 1)
	all := letterWeights(6)
	sets := slices.DeleteFunc(weightedSets(), func(set []string) bool { return hasNoBeginning(set) })
	for i, set := range sets {
		if i%3 > 0 {
			continue
		}
		heavy := slices.DeleteFunc(slices.Clone(all), func(weights []int) bool { return weightSum(set, weights, once).Cmp(one) <= 0 })
		for most := 1; most <= 6; most++ {
			call := fmt.Sprintf("FirstTooHeavy(%q, %d)", set, most)
			got, ok := impl.FirstTooHeavy(set, most)
			first := slices.IndexFunc(heavy, func(weights []int) bool { return total(weights) <= most })
			if first < 0 {
				wantNoList(t, call, got, ok)
			} else {
				wantList(t, call, got, ok, heavy[first])
			}
		}
	}
}

func TestMeanLengthAndInnerWeight(t *testing.T) {
	for _, c := range []struct {
		set         string
		weights     []int
		mean, inner impl.Ratio
	}{
		{"", []int{1, 1, 0}, ratio(0, 1), ratio(0, 1)}, {"a", []int{1, 0, 0}, ratio(1, 1), ratio(1, 1)}, {"a", []int{0, 1, 0}, ratio(0, 1), ratio(1, 1)}, {"a", []int{1, 1, 1}, ratio(1, 3), ratio(1, 1)},
		{"a ba bb", []int{1, 1, 0}, ratio(3, 2), ratio(3, 2)}, {"a ba bb", []int{1, 2, 0}, ratio(5, 3), ratio(5, 3)}, {"a ba bb", []int{1, 0, 0}, ratio(1, 1), ratio(1, 1)}, {"a ba bb", []int{0, 1, 0}, ratio(2, 1), ratio(2, 1)}, {"a ba bb", []int{1, 1, 1}, ratio(7, 9), ratio(4, 3)},
		{"a b c", []int{2, 3, 5}, ratio(1, 1), ratio(1, 1)}, {"a aa", []int{1, 1, 0}, ratio(1, 1), ratio(3, 2)}, {"a aa", []int{1, 0, 0}, ratio(3, 1), ratio(2, 1)}, {"a ab bb", []int{1, 1, 0}, ratio(3, 2), ratio(2, 1)}, {"cccccccc", []int{0, 0, 10}, ratio(8, 1), ratio(8, 1)}, {"aaaaaaaa", []int{1, 9, 0}, ratio(1, 12500000), ratio(11111111, 10000000)},
	} {
		call := fmt.Sprintf("(%s, %v)", c.set, c.weights)
		got, ok := impl.MeanLength(list(c.set), c.weights)
		wantValue(t, "MeanLength"+call, got, ok, c.mean)
		got, ok = impl.InnerWeight(list(c.set), c.weights)
		wantValue(t, "InnerWeight"+call, got, ok, c.inner)
	}
}

// For prefix sets whose weighted sum is 1, also those that have words of no weight, both are the same.
func TestInnerWordsWeighAsMuchAsTheMeanLength(t *testing.T) {
	found := 0
	for i, set := range prefixSets() {
		for k, weights := range letterWeights(6) {
			if i%7 != k%7 {
				continue
			}
			if sum, ok := impl.WeightedSum(set, weights); !ok || sum != ratio(1, 1) {
				continue
			}
			found++
			mean, ok := impl.MeanLength(set, weights)
			inner, innerOk := impl.InnerWeight(set, weights)
			if !ok || !innerOk || mean != inner {
				t.Errorf("%q, %v: mean length %v, %v; inner weight %v, %v", set, weights, mean, ok, inner, innerOk)
			}
		}
	}
	if found < 1000 {
		t.Errorf("only %d sums are 1", found)
	}
}

// messagesByCounts adds up the messages, and the different words, of all words with the same counts.
func messagesByCounts(set []string, n int) (map[[3]int]int, map[[3]int]int) {
	messages, words := map[[3]int]int{}, map[[3]int]int{}
	for s, readings := range messagesByWord(set, n) {
		messages[countsOf(s)] += len(readings)
		words[countsOf(s)]++
	}
	return messages, words
}

// Promise 8: messages are counted by letters; for a code they are as many as words that are written.
func TestMessagesAreCountedByLetters(t *testing.T) {
	for i, set := range weightedSets() {
		const most = 6
		if i%4 > 0 && hasNoBeginning(set) || len(set) > 7 {
			continue
		}
		messages, words := messagesByCounts(set, most)
		_, isDouble := firstDouble(set)
		for _, counts := range threeNumbers(most) {
			call := fmt.Sprintf("CountByLetters(%q, %v)", set, counts)
			got, ok := impl.CountByLetters(set, counts)
			wantValue(t, call, got, ok, messages[[3]int(counts)])
			if !isDouble {
				wantValue(t, call, got, ok, words[[3]int(counts)])
			}
		}
	}
}

// All counts with a sum of n are those of the messages with n letters.
func TestMessagesOfAllCountsAreThoseOfALength(t *testing.T) {
	all := threeNumbers(impl.MaxCounted)
	for _, set := range append(mixedSets(200), list("a b c"), list("a ba bb"), twelve(), list("a aa aaa aaaa aaaaa aaaaaa aaaaaaa aaaaaaaa")) {
		var sums [impl.MaxCounted + 1]int
		for _, counts := range all {
			got, ok := impl.CountByLetters(set, counts)
			if !ok {
				t.Fatalf("CountByLetters(%q, %v) fails", set, counts)
			}
			sums[total(counts)] += got
		}
		for n, sum := range sums {
			want, ok := impl.CountMessages(set, n)
			wantValue(t, fmt.Sprintf("CountMessages(%q, %d)", set, n), want, ok, sum)
		}
	}
}

func TestCountByLetters(t *testing.T) {
	for _, c := range []struct {
		set    string
		counts []int
		want   int
	}{
		{"", []int{0, 0, 0}, 1}, {"", []int{1, 0, 0}, 0}, {"a", []int{0, 0, 0}, 1}, {"a", []int{12, 0, 0}, 1}, {"a", []int{11, 1, 0}, 0}, {"a", []int{0, 1, 0}, 0}, {"aa", []int{12, 0, 0}, 1}, {"aa", []int{11, 0, 0}, 0}, {"ccc", []int{0, 0, 12}, 1},
		{"a ba bb", []int{0, 0, 0}, 1}, {"a ba bb", []int{1, 2, 0}, 2}, {"a ba bb", []int{1, 1, 0}, 1}, {"a ba bb", []int{0, 1, 0}, 0}, {"a ba bb", []int{1, 2, 1}, 0}, {"a ba bb", []int{6, 6, 0}, 610}, {"a aa", []int{12, 0, 0}, 233}, {"a ab ba", []int{2, 1, 0}, 4}, {"ab ba", []int{6, 6, 0}, 64},
		{"a b c", []int{4, 4, 4}, 34650}, {"a b c", []int{12, 0, 0}, 1}, {"abc bca cab", []int{4, 4, 4}, 81}, {"a b ab ba", []int{1, 1, 0}, 4}, {"a aa aaa aaaa aaaaa aaaaaa aaaaaaa aaaaaaaa", []int{12, 0, 0}, 2028},
	} {
		got, ok := impl.CountByLetters(list(c.set), c.counts)
		wantValue(t, fmt.Sprintf("CountByLetters(%s, %v)", c.set, c.counts), got, ok, c.want)
	}
}

func TestCountWithCounts(t *testing.T) {
	for _, c := range []struct {
		counts []int
		want   int
	}{
		{[]int{0, 0, 0}, 1}, {[]int{1, 0, 0}, 1}, {[]int{0, 0, 1}, 1}, {[]int{1, 1, 1}, 6}, {[]int{0, 1, 2}, 3}, {[]int{12, 0, 0}, 1}, {[]int{0, 12, 0}, 1}, {[]int{0, 0, 12}, 1}, {[]int{11, 0, 1}, 12}, {[]int{6, 6, 0}, 924}, {[]int{0, 5, 7}, 792}, {[]int{5, 4, 3}, 27720}, {[]int{4, 4, 4}, 34650}, {[]int{10, 1, 1}, 132},
	} {
		got, ok := impl.CountWithCounts(c.counts)
		wantValue(t, fmt.Sprintf("CountWithCounts(%v)", c.counts), got, ok, c.want)
	}
	for counts, want := range numbersOfWords(8) {
		got, ok := impl.CountWithCounts(counts[:])
		wantValue(t, fmt.Sprintf("CountWithCounts(%v)", counts), got, ok, want)
	}
	// All words are messages of the letters, and those of n letters are 3^n.
	sums := [impl.MaxCounted + 1]int{}
	for _, counts := range threeNumbers(impl.MaxCounted) {
		got, ok := impl.CountWithCounts(counts)
		sums[total(counts)] += got
		want, _ := impl.CountByLetters(list("a b c"), counts)
		wantValue(t, fmt.Sprintf("CountWithCounts(%v)", counts), got, ok, want)
	}
	number := 1
	for n, sum := range sums {
		wantValue(t, fmt.Sprintf("words with %d letters", n), sum, true, number)
		number *= 3
	}
}

func numbersOfWords(n int) map[[3]int]int {
	numbers := map[[3]int]int{}
	for _, s := range wordsUpTo("abc", n) {
		numbers[countsOf(s)]++
	}
	return numbers
}

// prefixAlike tries all lists of words that have the counts of a set, in lexicographic order, up to one that is a prefix set.
func prefixAlike(set []string, alike func(string) []string) ([]string, bool) {
	lists := [][]string{nil}
	for _, s := range set {
		var longer [][]string
		for _, l := range lists {
			for _, word := range alike(s) {
				longer = append(longer, append(slices.Clone(l), word))
			}
		}
		lists = longer
	}
	for _, l := range lists {
		if words := ordered(slices.Clone(l)); len(words) == len(set) && hasNoBeginning(words) {
			return words, true
		}
	}
	return nil, false
}

// alikeWords lists all words that have the counts of a word, as texts in order.
func alikeWords() func(string) []string {
	known := map[[3]int][]string{}
	for _, s := range wordsUpTo("abc", impl.MaxLength) {
		known[countsOf(s)] = append(known[countsOf(s)], s)
	}
	return func(s string) []string { return known[countsOf(s)] }
}

func checkPrefixAlike(t *testing.T, set []string, want []string, exists bool) {
	t.Helper()
	call := fmt.Sprintf("PrefixAlike(%q)", set)
	got, ok := impl.PrefixAlike(set)
	if !exists {
		wantNoList(t, call, got, ok)
		return
	}
	wantList(t, call, got, ok, want)
	if !impl.IsSet(got) || !hasNoBeginning(got) || !areAlike(set, got) {
		t.Errorf("%s = %q is no prefix set that is letter alike", call, got)
	}
}

func TestPrefixAlike(t *testing.T) {
	for _, c := range [][2]string{
		{"", ""}, {"a", "a"}, {"c", "c"}, {"ba", "ab"}, {"a ab", "a ba"}, {"a ba bb", "a ba bb"}, {"ab ba", "ab ba"}, {"a b c", "a b c"}, {"cba", "abc"}, {"b ab", "b ab"}, {"b ba", "b ab"}, {"a ab bb", "a ba bb"}, {"ab aab", "ab aab"}, {"ab aba", "ab aab"}, {"ab aab aba", "ab aab baa"}, {"ab ba abab", "ab ba aabb"},
		{"ab abb abab", "ab bab aabb"}, {"bb ca cb", "ac bb bc"}, {"cccccccc", "cccccccc"}, {"cccbbbaa", "aabbbccc"},
		// The words of one length are found in another order.
		{"a aac abb", "a bab caa"}, {"a ac bc abb acc", "a bc ca bab cca"},
		// Six words with fourteen letters, and one word or two with so many as can be.
		{"aa ab ac bb bbc bcc", "aa ab ac bb bcb bcc"}, {"a bb cc aac bcb bab", "a bb cc bab bcb caa"}, {"aaaaaa bbbbbbbb", "aaaaaa bbbbbbbb"}, {"aaaaaac bbbbbba", "aaaaaac abbbbbb"}, {"a bbbbbb ccccccc", "a bbbbbb ccccccc"},
	} {
		set, isSet := impl.SetOf(list(c[0]))
		want, isOne := prefixAlike(set, alikeWords())
		wantList(t, "the words tried for "+c[0], want, isSet && isOne, list(c[1]))
		checkPrefixAlike(t, set, want, true)
	}
}

// The first words of some sets leave none for the last one, nor do others in their place.
func TestNoPrefixSetIsAlike(t *testing.T) {
	for _, words := range []string{
		"a aa", "a b ab", "a b c cc abc", "a ab aab", "a ab ba", "a b aa", "c cc", "aa ab ba aab", "b aa ac ca aac", "aa ac ca cc aac", "ab ba abb bab bba", "a bb bc cb bbbc", "a bbb bbbbbbbb", "a bcbc aaaaaaaa", "a bbc bcc aaaaaa",
	} {
		set, isSet := impl.SetOf(list(words))
		want, isOne := prefixAlike(set, alikeWords())
		if !isSet || isOne || len(set) > 6 || len(strings.Join(set, "")) > 14 {
			t.Errorf("%q has the prefix set %q, or is refused", set, want)
		}
		checkPrefixAlike(t, set, nil, false)
	}
}

func TestPrefixAlikeIsTheFirstOfAll(t *testing.T) {
	sets := slices.DeleteFunc(subsets(wordsUpTo("abc", 2)[1:]), func(set []string) bool { return len(set) > 6 })
	for i, set := range subsets(wordsUpTo("abc", 3)[4:22]) {
		if len(set) <= 3 || len(set) == 4 && i%5 == 0 {
			sets = append(sets, set)
		}
	}
	for _, set := range append(smallSets(), mixedSets(1000)...) {
		if len(set) <= 4 && len(strings.Join(set, "")) <= 14 {
			sets = append(sets, set)
		}
	}
	alike := alikeWords()
	found := 0
	for _, set := range sets {
		want, exists := prefixAlike(set, alike)
		checkPrefixAlike(t, set, want, exists)
		if exists {
			found++
		}
	}
	if found < 500 || len(sets)-found < 500 {
		t.Errorf("%d of %d sets are alike to prefix sets", found, len(sets))
	}
}

func TestPrefixAlikeRefusesManyWordsAndLetters(t *testing.T) {
	for _, words := range []string{
		// Prefix sets, but of seven words or fifteen letters.
		"aa ab ac ba bb bc ca", "a b ca cb cca ccb ccc", "aa ab ac bb bcb bcca", "aaaaaaa bbbbbbbb", "a b caaaaa cbbbbbb", "aa bb cc aba abc aca",
	} {
		set := list(words)
		if !impl.IsSet(set) || !hasNoBeginning(set) {
			t.Fatalf("%q is no prefix set", set)
		}
		got, ok := impl.PrefixAlike(set)
		wantNoList(t, "PrefixAlike("+words+")", got, ok)
	}
	got, ok := impl.PrefixAlike(twelve())
	wantNoList(t, "PrefixAlike of twelve words", got, ok)
}

func TestIsFullCode(t *testing.T) {
	for _, c := range []struct {
		set     string
		letters int
		want    bool
	}{
		{"", 2, false}, {"", 3, false}, {"a", 2, false}, {"a", 3, false}, {"c", 3, false}, {"a b", 2, true}, {"a b", 3, false}, {"a b c", 3, true}, {"a ba bb", 2, true}, {"a ba bb", 3, false}, {"a ab bb", 2, true}, {"a ab bb", 3, false},
		{"aa ab ba bb", 2, true}, {"aa ab ba", 2, false}, {"a b ca cb cc", 3, true}, {"a b ca cb", 3, false}, {"a ab bba bbab bbbb", 2, true}, {"ab aaa baa bba bbb aaba aabb baba babb", 2, true}, {"a ba bba bbba bbbba bbbbba bbbbbba bbbbbbba bbbbbbbb", 2, true}, {"a ba bba bbba bbbba bbbbba bbbbbba bbbbbbba", 2, false},
		// Sets with the sum 1 that are no codes, and greater ones.
		{"a ab ba", 2, false}, {"b aa ab", 2, true}, {"b ab ba", 2, false}, {"a b ab", 2, false}, {"a b ab ba ca", 3, false}, {"a ab abb abba abbba abbbba abbbbba abbbbbba abbbbbbb", 2, false},
	} {
		got, ok := impl.IsFullCode(list(c.set), c.letters)
		wantValue(t, fmt.Sprintf("IsFullCode(%s, %d)", c.set, c.letters), got, ok, c.want)
	}
}

// Sets of other letters are refused; a code is full exactly if it is complete.
func TestFullCodesAreCompleteCodes(t *testing.T) {
	sets := append(append(weightedSets(), fullCodes(2)...), fullCodes(3)...)
	for _, set := range sets {
		_, isDouble := firstDouble(set)
		for letters := 2; letters <= 3; letters++ {
			call := fmt.Sprintf("IsFullCode(%q, %d)", set, letters)
			got, ok := impl.IsFullCode(set, letters)
			if len(withLetters([][]string{set}, letters)) == 0 {
				wantNoValue(t, call, got, ok)
				continue
			}
			sum := weightSum(set, []int{1, 1, letters - 2}, once)
			wantValue(t, call, got, ok, !isDouble && sum.Cmp(big.NewRat(1, 1)) == 0)
			if isComplete, tells := impl.IsCompleteSet(set, letters); tells && !isDouble {
				wantValue(t, call, got, ok, isComplete)
			}
		}
	}
}

func TestIsFullCodeRefusesLetters(t *testing.T) {
	for _, words := range []string{"c", "a b c", "a ba bc", "a ba bb bbbbbbbc", "ac"} {
		got, ok := impl.IsFullCode(list(words), 2)
		wantNoValue(t, "IsFullCode("+words+", 2)", got, ok)
	}
	for _, letters := range noLetters {
		for _, words := range []string{"", "a", "a b", "a ba bb", "a b c"} {
			got, ok := impl.IsFullCode(list(words), letters)
			wantNoValue(t, fmt.Sprintf("IsFullCode(%s, %d)", words, letters), got, ok)
		}
	}
}

// wantNoWeightOf calls all functions that have weights, which or whose set are invalid.
func wantNoWeightOf(t *testing.T, set []string, weights []int) {
	t.Helper()
	call := fmt.Sprintf("(%q, %v)", set, weights)
	got, ok := impl.WeightedSum(set, weights)
	wantNoValue(t, "WeightedSum"+call, got, ok)
	got, ok = impl.MeanLength(set, weights)
	wantNoValue(t, "MeanLength"+call, got, ok)
	got, ok = impl.InnerWeight(set, weights)
	wantNoValue(t, "InnerWeight"+call, got, ok)
}

func TestLetterWeightsThatAreRefused(t *testing.T) {
	for _, weights := range noLetterWeights {
		for _, set := range [][]string{nil, list("a"), list("a ba bb"), list("a b c"), list("cccccccc"), {""}, list("b a")} {
			wantNoWeightOf(t, set, weights)
		}
		for _, s := range []string{"", "a", "abc", "cccccccc", "aaaaaaaaa", "d"} {
			got, ok := impl.WeightOf(s, weights)
			wantNoValue(t, fmt.Sprintf("WeightOf(%q, %v)", s, weights), got, ok)
		}
	}
}

func TestCountsThatAreRefused(t *testing.T) {
	for _, counts := range noCounts {
		got, ok := impl.CountWithCounts(counts)
		wantNoValue(t, fmt.Sprintf("CountWithCounts(%v)", counts), got, ok)
		for _, set := range [][]string{nil, list("a"), list("a b c"), list("aa abc"), {""}, list("b a")} {
			got, ok = impl.CountByLetters(set, counts)
			wantNoValue(t, fmt.Sprintf("CountByLetters(%q, %v)", set, counts), got, ok)
		}
	}
}

func TestSetsWhoseLettersAreRefused(t *testing.T) {
	for _, set := range noSets {
		call := fmt.Sprintf("(%q)", set)
		lists, ok := impl.LetterCounts(set)
		wantNoList(t, "LetterCounts"+call, lists, ok)
		for _, pair := range [][2][]string{{set, set}, {set, nil}, {nil, set}, {set, list("a b")}, {list("a b"), set}} {
			are, ok := impl.AreLetterAlike(pair[0], pair[1])
			wantNoValue(t, fmt.Sprintf("AreLetterAlike(%q, %q)", pair[0], pair[1]), are, ok)
		}
		for _, weights := range [][]int{{1, 0, 0}, {1, 1, 1}, {0, 0, 10}} {
			wantNoWeightOf(t, set, weights)
			number, ok := impl.CountByLetters(set, weights)
			wantNoValue(t, "CountByLetters"+call, number, ok)
		}
		alike, ok := impl.PrefixAlike(set)
		wantNoList(t, "PrefixAlike"+call, alike, ok)
		for n := 1; n <= 6; n++ {
			weights, ok := impl.FirstTooHeavy(set, n)
			wantNoList(t, "FirstTooHeavy"+call, weights, ok)
			is, ok := impl.IsFullCode(set, n)
			wantNoValue(t, "IsFullCode"+call, is, ok)
		}
	}
}

func TestGreatestSumsOfWeightsThatAreRefused(t *testing.T) {
	for _, most := range []int{-1 << 63, -6, -1, 0, 7, 8, 10, 1<<63 - 1} {
		for _, words := range []string{"", "a", "a aa", "a b ab", "a ab ba"} {
			got, ok := impl.FirstTooHeavy(list(words), most)
			wantNoList(t, fmt.Sprintf("FirstTooHeavy(%s, %d)", words, most), got, ok)
		}
	}
}
