package tests

import (
	"fmt"
	"math/big"
	"math/rand"
	"regexp"
	"slices"
	"strings"
	"testing"

	"loop.example/g01164/impl"
)

var noLetters = []int{-1 << 63, -3, -2, -1, 0, 1, 4, 5, 26, 1<<63 - 1}

// Lists that are no lengths: too many, too short, too long, and out of order.
var noLengths = [][]int{
	slices.Repeat([]int{8}, 13), {0}, {9}, {-1}, {-1 << 63}, {1<<63 - 1}, {0, 1}, {1, 9}, {-1, 1}, {2, 1}, {1, 3, 2}, {8, 8, 7}, make([]int, 12),
}

// withLetters lists the sets that have the first letters only.
func withLetters(sets [][]string, letters int) [][]string {
	return slices.DeleteFunc(slices.Clone(sets), func(set []string) bool {
		return letters == 2 && strings.Contains(strings.Join(set, ""), "c")
	})
}

// smallPrefixSets lists all prefix sets of at most MaxSet words of at most n letters, also the one without words.
func smallPrefixSets(letters int, n int) [][]string {
	sets := subsets(wordsUpTo("abc"[:letters], n)[1:])
	return slices.DeleteFunc(sets, func(set []string) bool { return len(set) > impl.MaxSet || !hasNoBeginning(set) })
}

func hasNoBeginning(set []string) bool {
	for _, s := range set {
		for _, t := range set {
			if s != t && strings.HasPrefix(s, t) {
				return false
			}
		}
	}
	return true
}

func lengthsOf(set []string) []int {
	var lengths []int
	for _, s := range set {
		lengths = append(lengths, len(s))
	}
	return lengths
}

func allOfLength(letters int, length int) []string {
	return slices.DeleteFunc(wordsUpTo("abc"[:letters], length), func(s string) bool { return len(s) < length })
}

// share returns 1 / letters^length.
func share(letters int, length int) *big.Rat {
	part := big.NewRat(1, 1)
	for range length {
		part.Mul(part, big.NewRat(1, int64(letters)))
	}
	return part
}

func sumOf(letters int, lengths []int) *big.Rat {
	sum := new(big.Rat)
	for _, length := range lengths {
		sum.Add(sum, share(letters, length))
	}
	return sum
}

func ratio(num int, den int) impl.Ratio {
	return impl.Ratio{Num: num, Den: den}
}

// asRatio relies on big ratios having no common divisors.
func asRatio(r *big.Rat) impl.Ratio {
	return ratio(int(r.Num().Int64()), int(r.Denom().Int64()))
}

// lengthLists lists all lists of n lengths none of which is greater than most, in lexicographic order.
func lengthLists(n int, most int) [][]int {
	lists := [][]int{nil}
	for range n {
		var longer [][]int
		for _, l := range lists {
			least := 1
			if len(l) > 0 {
				least = l[len(l)-1]
			}
			for length := least; length <= most; length++ {
				longer = append(longer, append(slices.Clone(l), length))
			}
		}
		lists = longer
	}
	return lists
}

// mixedLengths lists lists of lengths of all sizes, always the same ones, the short lengths being rare.
func mixedLengths(number int) [][]int {
	random := rand.New(rand.NewSource(3))
	var lists [][]int
	for range number {
		lengths := make([]int, random.Intn(13))
		least := 1 + random.Intn(4)
		for i := range lengths {
			lengths[i] = least + random.Intn(9-least)
		}
		slices.Sort(lengths)
		lists = append(lists, lengths)
	}
	return lists
}

// someLengths lists all short lists of lengths and some long ones.
func someLengths() [][]int {
	lists := mixedLengths(300)
	for n := range 6 {
		lists = append(lists, lengthLists(n, 4)...)
	}
	return append(lists, slices.Repeat([]int{8}, 12), []int{1, 2, 3, 4, 5, 6, 7, 8, 8}, []int{1, 2, 3, 4, 5, 6, 7, 8}, []int{1, 2, 3, 4, 5, 6, 7, 8, 8, 8})
}

// firstPrefixCode takes each word after trying all words of its length.
func firstPrefixCode(letters int, lengths []int) ([]string, bool) {
	var set []string
	for _, length := range lengths {
		words := allOfLength(letters, length)
		i := slices.IndexFunc(words, func(s string) bool { return !beginsWithOne(s, set) })
		if i < 0 {
			return nil, false
		}
		set = append(set, words[i])
	}
	return set, true
}

func beginsWithOne(s string, set []string) bool {
	return slices.ContainsFunc(set, func(t string) bool { return strings.HasPrefix(s, t) })
}

func TestKraftSum(t *testing.T) {
	for _, c := range []struct {
		set     string
		letters int
		want    impl.Ratio
	}{
		{"", 2, ratio(0, 1)}, {"", 3, ratio(0, 1)}, {"a", 2, ratio(1, 2)}, {"a", 3, ratio(1, 3)}, {"c", 3, ratio(1, 3)},
		{"a ba bb", 2, ratio(1, 1)}, {"a ba bb", 3, ratio(5, 9)}, {"a b c", 3, ratio(1, 1)}, {"a b ab ba", 2, ratio(3, 2)},
		{"aaaaaaaa", 2, ratio(1, 256)}, {"aaaaaaaa", 3, ratio(1, 6561)}, {"aa ab", 2, ratio(1, 2)}, {"a b aa ab ba bb aaa aab aba abb baa bab", 2, ratio(11, 4)},
	} {
		got, ok := impl.KraftSum(list(c.set), c.letters)
		wantValue(t, fmt.Sprintf("KraftSum(%s, %d)", c.set, c.letters), got, ok, c.want)
	}
	for _, set := range append(smallSets(), mixedSets(1000)...) {
		for letters := 2; letters <= 3; letters++ {
			got, ok := impl.KraftSum(set, letters)
			if len(withLetters([][]string{set}, letters)) == 0 {
				wantNoValue(t, fmt.Sprintf("KraftSum(%q, %d)", set, letters), got, ok)
			} else {
				wantValue(t, fmt.Sprintf("KraftSum(%q, %d)", set, letters), got, ok, asRatio(sumOf(letters, lengthsOf(set))))
			}
		}
	}
}

// A code's sum is at most 1.
func TestKraftSumOfCodes(t *testing.T) {
	for _, set := range append(smallSets(), mixedSets(2000)...) {
		sum, _ := impl.KraftSum(set, 3)
		if is, _ := impl.IsCode(set); is && sum.Num > sum.Den {
			t.Errorf("the code %q has the sum %v", set, sum)
		}
	}
}

func TestSumOfLengths(t *testing.T) {
	for _, c := range []struct {
		lengths []int
		letters int
		want    impl.Ratio
	}{
		{nil, 2, ratio(0, 1)}, {nil, 3, ratio(0, 1)}, {[]int{1}, 2, ratio(1, 2)}, {[]int{1}, 3, ratio(1, 3)},
		{[]int{1, 2, 3}, 2, ratio(7, 8)}, {[]int{1, 2, 2}, 2, ratio(1, 1)}, {[]int{1, 1, 1}, 3, ratio(1, 1)},
		{slices.Repeat([]int{1}, 12), 2, ratio(6, 1)}, {slices.Repeat([]int{1}, 12), 3, ratio(4, 1)}, {slices.Repeat([]int{8}, 12), 2, ratio(3, 64)},
		{slices.Repeat([]int{8}, 12), 3, ratio(4, 2187)}, {[]int{1, 2, 3, 4, 5, 6, 7, 8, 8}, 2, ratio(1, 1)},
	} {
		got, ok := impl.SumOfLengths(c.lengths, c.letters)
		wantValue(t, fmt.Sprintf("SumOfLengths(%v, %d)", c.lengths, c.letters), got, ok, c.want)
	}
	for _, lengths := range someLengths() {
		for letters := 2; letters <= 3; letters++ {
			got, ok := impl.SumOfLengths(lengths, letters)
			wantValue(t, fmt.Sprintf("SumOfLengths(%v, %d)", lengths, letters), got, ok, asRatio(sumOf(letters, lengths)))
		}
	}
}

// Promise 3: prefix sets are made exactly if Kraft's sum is at most one.
func TestPrefixSetsAreMadeIfTheSumIsAtMostOne(t *testing.T) {
	for _, lengths := range someLengths() {
		for letters := 2; letters <= 3; letters++ {
			call := fmt.Sprintf("(%v, %d)", lengths, letters)
			atMostOne := sumOf(letters, lengths).Cmp(big.NewRat(1, 1)) <= 0
			can, ok := impl.CanBePrefix(lengths, letters)
			wantValue(t, "CanBePrefix"+call, can, ok, atMostOne)
			set, ok := impl.FirstPrefixCode(lengths, letters)
			want, isOne := firstPrefixCode(letters, lengths)
			if isOne != atMostOne {
				t.Fatalf("%s: %v", call, want)
			}
			if !atMostOne {
				wantNoList(t, "FirstPrefixCode"+call, set, ok)
				continue
			}
			wantList(t, "FirstPrefixCode"+call, set, ok, want)
			is, ok := impl.IsPrefixSet(set)
			wantValue(t, fmt.Sprintf("IsPrefixSet(%q)", set), is, ok, true)
			got, ok := impl.LengthsOf(set)
			wantList(t, fmt.Sprintf("LengthsOf(%q)", set), got, ok, lengths)
		}
	}
}

// The lengths of all prefix sets can be those of one, and no others can.
func TestCanBePrefix(t *testing.T) {
	for _, c := range []struct{ letters, most int }{{2, 3}, {3, 2}} {
		known := map[string]bool{}
		for _, set := range smallPrefixSets(c.letters, c.most) {
			known[fmt.Sprint(lengthsOf(set))] = true
		}
		for n := range 13 {
			for _, lengths := range lengthLists(n, c.most) {
				got, ok := impl.CanBePrefix(lengths, c.letters)
				wantValue(t, fmt.Sprintf("CanBePrefix(%v, %d)", lengths, c.letters), got, ok, known[fmt.Sprint(lengths)])
			}
		}
	}
}

func TestFirstPrefixCode(t *testing.T) {
	for _, c := range []struct {
		lengths []int
		letters int
		want    string
	}{
		{nil, 2, ""}, {nil, 3, ""}, {[]int{1}, 2, "a"}, {[]int{1, 1}, 2, "a b"}, {[]int{1, 1, 1}, 3, "a b c"}, {[]int{1, 2, 3}, 2, "a ba bba"},
		{[]int{1, 2, 3}, 3, "a ba bba"}, {[]int{1, 1, 2, 2, 2}, 3, "a b ca cb cc"}, {[]int{2, 2, 2, 2}, 2, "aa ab ba bb"}, {[]int{8}, 3, "aaaaaaaa"},
		{[]int{1, 2, 3, 4, 5, 6, 7, 8, 8}, 2, "a ba bba bbba bbbba bbbbba bbbbbba bbbbbbba bbbbbbbb"}, {[]int{1, 1, 8, 8}, 3, "a b caaaaaaa caaaaaab"},
		{[]int{1, 3, 3, 3, 4, 5, 8}, 2, "a baa bab bba bbba bbbba bbbbbaaa"},
	} {
		got, ok := impl.FirstPrefixCode(c.lengths, c.letters)
		wantList(t, fmt.Sprintf("FirstPrefixCode(%v, %d)", c.lengths, c.letters), got, ok, list(c.want))
	}
	for _, c := range []struct {
		lengths []int
		letters int
	}{{[]int{1, 1, 1}, 2}, {[]int{1, 1, 8}, 2}, {[]int{1, 1, 1, 8}, 3}, {[]int{1, 2, 3, 4, 5, 6, 7, 8, 8, 8}, 2}, {slices.Repeat([]int{3}, 9), 2}, {slices.Repeat([]int{2}, 10), 3}} {
		got, ok := impl.FirstPrefixCode(c.lengths, c.letters)
		wantNoList(t, fmt.Sprintf("FirstPrefixCode(%v, %d)", c.lengths, c.letters), got, ok)
	}
}

func TestRoomLeft(t *testing.T) {
	for _, lengths := range someLengths() {
		for letters := 2; letters <= 3; letters++ {
			set, isOne := firstPrefixCode(letters, lengths)
			for length := 1; length <= 8; length++ {
				call := fmt.Sprintf("RoomLeft(%v, %d, %d)", lengths, letters, length)
				got, ok := impl.RoomLeft(lengths, letters, length)
				if !isOne || slices.Max(append([]int{1}, lengths...)) > length {
					wantNoValue(t, call, got, ok)
					continue
				}
				left := slices.DeleteFunc(allOfLength(letters, length), func(s string) bool { return beginsWithOne(s, set) })
				wantValue(t, call, got, ok, len(left))
			}
		}
	}
	for _, c := range []struct {
		lengths               []int
		letters, length, want int
	}{
		{nil, 2, 1, 2}, {nil, 2, 8, 256}, {nil, 3, 1, 3}, {nil, 3, 8, 6561}, {[]int{1, 1}, 2, 8, 0}, {[]int{1, 2, 3}, 2, 3, 1}, {[]int{1, 2, 3}, 2, 8, 32}, {[]int{8}, 2, 8, 255},
	} {
		got, ok := impl.RoomLeft(c.lengths, c.letters, c.length)
		wantValue(t, fmt.Sprintf("RoomLeft(%v, %d, %d)", c.lengths, c.letters, c.length), got, ok, c.want)
	}
	for _, length := range []int{-1 << 63, -1, 0, 9, 1<<63 - 1} {
		for _, lengths := range [][]int{nil, {1}, {8}} {
			got, ok := impl.RoomLeft(lengths, 2, length)
			wantNoValue(t, fmt.Sprintf("RoomLeft(%v, 2, %d)", lengths, length), got, ok)
		}
	}
}

func TestLengthsThatAreRefused(t *testing.T) {
	check := func(lengths []int, letters int) {
		t.Helper()
		call := fmt.Sprintf("(%v, %d)", lengths, letters)
		sum, ok := impl.SumOfLengths(lengths, letters)
		wantNoValue(t, "SumOfLengths"+call, sum, ok)
		can, ok := impl.CanBePrefix(lengths, letters)
		wantNoValue(t, "CanBePrefix"+call, can, ok)
		set, ok := impl.FirstPrefixCode(lengths, letters)
		wantNoList(t, "FirstPrefixCode"+call, set, ok)
		room, ok := impl.RoomLeft(lengths, letters, 8)
		wantNoValue(t, "RoomLeft"+call, room, ok)
	}
	for _, lengths := range noLengths {
		check(lengths, 2)
		check(lengths, 3)
	}
	for _, letters := range noLetters {
		check(nil, letters)
		check([]int{1, 2}, letters)
		check([]int{8}, letters)
	}
}

func TestIsPrefixSetAndIsSuffixSet(t *testing.T) {
	for _, c := range []struct {
		set            string
		prefix, suffix bool
	}{
		{"", true, true}, {"a", true, true}, {"a b c", true, true}, {"a ba bb", true, false}, {"a ab bb", false, true}, {"aa ab ba bb", true, true}, {"a b aa", false, false},
		{"ab bab", true, false}, {"ab aba", false, true}, {"aa bab bba", true, true}, {"ab cabc", true, true}, {"b aaaaaaaa baaaaaaa", false, true}, {"b aaaaaaaa aaaaaaab", true, false},
	} {
		got, ok := impl.IsPrefixSet(list(c.set))
		wantValue(t, "IsPrefixSet("+c.set+")", got, ok, c.prefix)
		got, ok = impl.IsSuffixSet(list(c.set))
		wantValue(t, "IsSuffixSet("+c.set+")", got, ok, c.suffix)
	}
	for _, set := range append(smallSets(), mixedSets(2000)...) {
		got, ok := impl.IsPrefixSet(set)
		wantValue(t, fmt.Sprintf("IsPrefixSet(%q)", set), got, ok, hasNoBeginning(set))
		ends := slices.ContainsFunc(set, func(s string) bool {
			return slices.ContainsFunc(set, func(t string) bool { return s != t && strings.HasSuffix(s, t) })
		})
		got, ok = impl.IsSuffixSet(set)
		wantValue(t, fmt.Sprintf("IsSuffixSet(%q)", set), got, ok, !ends)
	}
	for _, set := range noSets {
		got, ok := impl.IsPrefixSet(set)
		wantNoValue(t, "IsPrefixSet", got, ok)
		got, ok = impl.IsSuffixSet(set)
		wantNoValue(t, "IsSuffixSet", got, ok)
	}
}

// fillPrefix tries all words that are not longer than those of the set.
func fillPrefix(set []string, letters int) []string {
	filled := slices.Clone(set)
	for _, s := range wordsUpTo("abc"[:letters], len(set[len(set)-1]))[1:] {
		short := s[:len(s)-1]
		isBeginning := slices.ContainsFunc(set, func(t string) bool { return strings.HasPrefix(t, short) })
		isApart := !beginsWithOne(s, set) && !slices.ContainsFunc(set, func(t string) bool { return strings.HasPrefix(t, s) })
		if isBeginning && isApart {
			filled = append(filled, s)
		}
	}
	return ordered(filled)
}

// Promise 3: filled prefix sets are complete.
func TestFilledPrefixSetsAreComplete(t *testing.T) {
	sets := append(smallPrefixSets(2, 3), smallPrefixSets(3, 2)...)
	for _, lengths := range mixedLengths(300) {
		if set, isOne := firstPrefixCode(2, lengths); isOne {
			sets = append(sets, set)
		}
	}
	for _, set := range append(sets, mixedSets(1000)...) {
		for letters := 2; letters <= 3; letters++ {
			got, ok := impl.FillPrefix(set, letters)
			call := fmt.Sprintf("FillPrefix(%q, %d)", set, letters)
			if len(set) == 0 || !hasNoBeginning(set) || len(withLetters([][]string{set}, letters)) == 0 {
				wantNoList(t, call, got, ok)
				continue
			}
			want := fillPrefix(set, letters)
			if len(want) > impl.MaxSet {
				wantNoList(t, call, got, ok)
				continue
			}
			wantList(t, call, got, ok, want)
			checkComplete(t, got, letters)
		}
	}
}

func checkComplete(t *testing.T, set []string, letters int) {
	t.Helper()
	call := fmt.Sprintf("(%q, %d)", set, letters)
	sum, ok := impl.KraftSum(set, letters)
	wantValue(t, "KraftSum"+call, sum, ok, ratio(1, 1))
	is, ok := impl.IsMaximalPrefix(set, letters)
	wantValue(t, "IsMaximalPrefix"+call, is, ok, true)
	if len(strings.Join(set, "")) <= 30 {
		is, ok = impl.IsCompleteSet(set, letters)
		wantValue(t, "IsCompleteSet"+call, is, ok, true)
	}
	missing, ok := impl.FirstMissing(set, letters)
	wantNoValue(t, "FirstMissing"+call, missing, ok)
	same, ok := impl.FillPrefix(set, letters)
	wantList(t, "FillPrefix"+call, same, ok, set)
}

func TestFillPrefix(t *testing.T) {
	for _, c := range []struct {
		set     string
		letters int
		want    string
	}{
		{"a", 2, "a b"}, {"b", 2, "a b"}, {"a", 3, "a b c"}, {"a b", 2, "a b"}, {"a b", 3, "a b c"}, {"a ba bba", 2, "a ba bba bbb"}, {"ba", 2, "a ba bb"},
		{"ba", 3, "a c ba bb bc"}, {"abaab", 2, "b aa abb abab abaaa abaab"},
		{"aaaaaaaa", 2, "b ab aab aaab aaaab aaaaab aaaaaab aaaaaaaa aaaaaaab"},
		{"baaa aaaaaaaa", 2, "ab bb aab bab aaab baaa baab aaaab aaaaab aaaaaab aaaaaaaa aaaaaaab"},
		{"aaaaa", 3, "b c ab ac aab aac aaab aaac aaaaa aaaab aaaac"},
	} {
		got, ok := impl.FillPrefix(list(c.set), c.letters)
		wantList(t, fmt.Sprintf("FillPrefix(%s, %d)", c.set, c.letters), got, ok, list(c.want))
	}
	for _, c := range []struct {
		set     string
		letters int
	}{
		{"", 2}, {"", 3}, {"a ab", 2}, {"a ab", 3}, {"c", 2}, {"a bc", 2}, {"baaaa aaaaaaaa", 2}, {"aaaaaa", 3}, {"aaaaaaaa", 3}, {"aaaaaaaa bbbbbbbb", 2},
	} {
		got, ok := impl.FillPrefix(list(c.set), c.letters)
		wantNoList(t, fmt.Sprintf("FillPrefix(%s, %d)", c.set, c.letters), got, ok)
	}
}

func TestIsMaximalPrefix(t *testing.T) {
	sets := append(smallPrefixSets(2, 3), smallPrefixSets(3, 2)...)
	sets = append(sets, smallSets()...)
	for _, set := range append(sets, mixedSets(300)...) {
		for letters := 2; letters <= 3; letters++ {
			got, ok := impl.IsMaximalPrefix(set, letters)
			call := fmt.Sprintf("IsMaximalPrefix(%q, %d)", set, letters)
			if len(withLetters([][]string{set}, letters)) == 0 {
				wantNoValue(t, call, got, ok)
				continue
			}
			want := hasNoBeginning(set)
			// A longer word that does not begin with one of the set has a beginning of this length that does not, either.
			for _, s := range wordsUpTo("abc"[:letters], slices.Max(append(lengthsOf(set), 1))) {
				want = want && (beginsWithOne(s, set) || slices.ContainsFunc(set, func(t string) bool { return strings.HasPrefix(t, s) }))
			}
			wantValue(t, call, got, ok, want)
		}
	}
	for _, c := range []struct {
		set     string
		letters int
		want    bool
	}{
		{"", 2, false}, {"", 3, false}, {"a b", 2, true}, {"a b", 3, false}, {"a b c", 3, true}, {"a ba bb", 2, true}, {"a ba", 2, false}, {"a ab bb", 2, false}, {"a b ab", 2, false},
	} {
		got, ok := impl.IsMaximalPrefix(list(c.set), c.letters)
		wantValue(t, fmt.Sprintf("IsMaximalPrefix(%s, %d)", c.set, c.letters), got, ok, c.want)
	}
}

func TestSumsOfPowers(t *testing.T) {
	sets := append(mixedSets(60), nil, list("a"), list("a b c"), list("a b aa ab ba bb"), list("a b c aa ab ac ba bb bc ca cb cc"), thirteen()[:12])
	for _, set := range sets {
		for letters := 2; letters <= 3; letters++ {
			if len(withLetters([][]string{set}, letters)) == 0 {
				got, ok := impl.SumsOfPowers(set, letters, 2)
				wantNoValue(t, "SumsOfPowers", got, ok)
				continue
			}
			lengths := []int{0}
			for k := range 5 {
				got, ok := impl.SumsOfPowers(set, letters, k)
				wantValue(t, fmt.Sprintf("SumsOfPowers(%q, %d, %d)", set, letters, k), got, ok, asRatio(sumOf(letters, lengths)))
				lengths = lengthsOfLonger(lengths, set)
			}
		}
	}
	for _, k := range []int{-1 << 63, -1, 5, 1<<63 - 1} {
		got, ok := impl.SumsOfPowers(list("a b"), 2, k)
		wantNoValue(t, "SumsOfPowers", got, ok)
		got, ok = impl.SumsOfPowers(nil, 3, k)
		wantNoValue(t, "SumsOfPowers", got, ok)
	}
}

// lengthsOfLonger lists the lengths of all messages with one word more.
func lengthsOfLonger(lengths []int, set []string) []int {
	var longer []int
	for _, length := range lengths {
		for _, s := range set {
			longer = append(longer, length+len(s))
		}
	}
	return longer
}

func TestSumsOfPowersOfTheDocument(t *testing.T) {
	for _, c := range []struct {
		set        string
		letters, k int
		want       impl.Ratio
	}{
		{"", 2, 0, ratio(1, 1)}, {"", 2, 1, ratio(0, 1)}, {"", 3, 4, ratio(0, 1)}, {"a", 2, 4, ratio(1, 16)}, {"a", 3, 0, ratio(1, 1)},
		{"a ba bb", 2, 4, ratio(1, 1)}, {"a ba bba", 2, 2, ratio(49, 64)}, {"aaaaaaaa", 3, 4, ratio(1, 1853020188851841)}, {"a b aa ab", 2, 3, ratio(27, 8)},
	} {
		got, ok := impl.SumsOfPowers(list(c.set), c.letters, c.k)
		wantValue(t, fmt.Sprintf("SumsOfPowers(%s, %d, %d)", c.set, c.letters, c.k), got, ok, c.want)
	}
}

// partOf tells words that are part of a message: within a word, or an end of one, words, and a beginning of one.
func partOf(set []string) func(string) bool {
	begins, ends := []string{""}, []string{""}
	for _, s := range set {
		for k := range len(s) {
			begins = append(begins, s[:k])
			ends = append(ends, s[k:])
		}
	}
	pattern := "^(" + strings.Join(ends, "|") + ")(" + strings.Join(set, "|") + ")*(" + strings.Join(begins, "|") + ")$"
	across := regexp.MustCompile(pattern)
	return func(s string) bool {
		return across.MatchString(s) || slices.ContainsFunc(set, func(t string) bool { return strings.Contains(t, s) })
	}
}

func TestFirstMissing(t *testing.T) {
	sets := slices.DeleteFunc(smallSets(), func(set []string) bool { return len(set) == 4 && len(set[1]) > 1 })
	sets = append(sets, mixedSets(300)...)
	for _, c := range []struct{ letters, most int }{{2, 8}, {3, 6}} {
		words := wordsUpTo("abc"[:c.letters], c.most)[1:]
		for _, set := range withLetters(sets, c.letters) {
			got, ok := impl.FirstMissing(set, c.letters)
			call := fmt.Sprintf("FirstMissing(%q, %d)", set, c.letters)
			isPart := partOf(set)
			i := slices.IndexFunc(words, func(s string) bool { return !isPart(s) })
			if i >= 0 {
				wantValue(t, call, got, ok, words[i])
			} else if c.most == impl.MaxLength {
				wantNoValue(t, call, got, ok)
			} else if ok && (len(got) <= c.most || isPart(got)) {
				t.Errorf("%s = %s", call, got)
			}
		}
	}
}

func TestFirstMissingOfTheDocument(t *testing.T) {
	for _, c := range []struct {
		set     string
		letters int
		want    string
	}{
		{"", 2, "a"}, {"", 3, "a"}, {"a", 2, "b"}, {"b", 2, "a"}, {"a b", 3, "c"}, {"a ab", 2, "bb"}, {"ab", 2, "aa"}, {"ab ba", 2, "aaa"}, {"aa", 2, "b"}, {"a bb", 2, "aba"},
		{"b aa", 2, "bab"}, {"aaaaaaaa", 3, "b"}, {"aaaaaaab", 2, "bb"}, {"abbbbbbb", 2, "aa"}, {"a c ab cb", 3, "bb"},
		// The words of 8 letters are the last ones that are looked at.
		{"a b aaaaaaaa", 3, "c"}, {"a ab abb abbb abbbb abbbbb abbbbbb abbbbbbb", 2, "bbbbbbbb"},
	} {
		got, ok := impl.FirstMissing(list(c.set), c.letters)
		wantValue(t, fmt.Sprintf("FirstMissing(%s, %d)", c.set, c.letters), got, ok, c.want)
	}
	for _, c := range []struct {
		set     string
		letters int
	}{{"a b", 2}, {"a b c", 3}, {"a ba bb", 2}, {"a ab bb", 2}, {longMissing, 2}, {"a ab abb abbb abbbb abbbbb abbbbbb abbbbbba abbbbbbb bbbbbbbb", 2}} {
		got, ok := impl.FirstMissing(list(c.set), c.letters)
		wantNoValue(t, fmt.Sprintf("FirstMissing(%s, %d)", c.set, c.letters), got, ok)
	}
}

// The words of this set have 25 letters, and the first word that is missing has 21.
const longMissing = "a ab ba abb bab bba bbbb bbbabbb"

// Sets and the first words that they miss, which have more than MaxLength letters.
var missingLater = []struct {
	set     string
	letters int
	missing string
}{
	{longMissing, 2, "aabbbabbabbbabbabbbaa"},
	{"b ab ba aab aba baa aaaa aaabaaa", 2, "bbaaabaabaaabaabaaabb"},
	{"a b ac bc ca cb ccb ccc bacc bbcc ccaa", 3, "aaccaccab"},
}

func TestIsCompleteSet(t *testing.T) {
	for _, c := range []struct {
		set     string
		letters int
		want    bool
	}{
		{"", 2, false}, {"", 3, false}, {"a", 2, false}, {"a b", 2, true}, {"a b", 3, false}, {"a b c", 3, true}, {"a ba bb", 2, true}, {"a ab bb", 2, true}, {"a ab", 2, false},
		{"a b ab", 2, true}, {"aa ab ba bb", 2, true}, {"aa ab ba bbb", 2, false}, {longMissing, 2, false}, {"c aa ab ac ba bb bc", 3, true}, {"c aa ab ac ba bb", 3, false},
		{"a ba bba bbba bbbba bbbbba bbbbbb", 2, true}, {"a ba bba bbba bbbba bbbbba", 2, false},
	} {
		got, ok := impl.IsCompleteSet(list(c.set), c.letters)
		wantValue(t, fmt.Sprintf("IsCompleteSet(%s, %d)", c.set, c.letters), got, ok, c.want)
	}
}

func TestIsCompleteSetAgreesWithPartsAndSums(t *testing.T) {
	for _, set := range append(smallSets(), mixedSets(2000)...) {
		for letters := 2; letters <= 3; letters++ {
			got, ok := impl.IsCompleteSet(set, letters)
			call := fmt.Sprintf("IsCompleteSet(%q, %d)", set, letters)
			if len(strings.Join(set, "")) > 30 || len(withLetters([][]string{set}, letters)) == 0 {
				wantNoValue(t, call, got, ok)
				continue
			}
			missing, isMissing := impl.FirstMissing(set, letters)
			sum, _ := impl.KraftSum(set, letters)
			if isMissing || sum.Num < sum.Den {
				wantValue(t, call, got, ok, false)
			}
			if isCode, _ := impl.IsCode(set); isCode {
				wantValue(t, call, got, ok, sum == ratio(1, 1))
			}
			if !ok || got && isMissing {
				t.Errorf("%s = %v, %v, but %q is missing", call, got, ok, missing)
			}
		}
	}
}

// Sets that have no missing word of at most MaxLength letters need not be complete.
func TestWordsThatAreMissingLater(t *testing.T) {
	for _, c := range missingLater {
		isPart := partOf(list(c.set))
		if isPart(c.missing) || !isPart(c.missing[1:]) || !isPart(c.missing[:len(c.missing)-1]) {
			t.Fatalf("%s is no first word that %s misses", c.missing, c.set)
		}
		got, ok := impl.FirstMissing(list(c.set), c.letters)
		wantNoValue(t, "FirstMissing("+c.set+")", got, ok)
		is, ok := impl.IsCompleteSet(list(c.set), c.letters)
		wantValue(t, "IsCompleteSet("+c.set+")", is, ok, false)
	}
}

func TestIsCompleteSetUpToThirtyLetters(t *testing.T) {
	for _, c := range []struct {
		set     string
		letters int
		want    bool
	}{
		{"a b aa ab ba bb aaa aab aaaaaaa aaaaaab", 2, true}, {"aa ab aaaaaa bbbbbb aaaaaaa aaaaaab", 2, false}, {"a b c aa ab ac ba bb bc ccc aaaaaa cccccc", 3, true},
	} {
		if letters := len(strings.Join(list(c.set), "")); letters != 30 {
			t.Fatalf("%s has %d letters", c.set, letters)
		}
		got, ok := impl.IsCompleteSet(list(c.set), c.letters)
		wantValue(t, "IsCompleteSet("+c.set+")", got, ok, c.want)
		// The letter that is put to the last word makes it too long.
		longer := list(c.set + "a")
		got, ok = impl.IsCompleteSet(longer, c.letters)
		wantNoValue(t, "IsCompleteSet("+c.set+"a)", got, ok)
		if !impl.IsSet(longer) {
			t.Fatalf("%q is no set", longer)
		}
	}
}

func TestSetsThatAreRefused(t *testing.T) {
	check := func(set []string, letters int) {
		t.Helper()
		call := fmt.Sprintf("(%q, %d)", set, letters)
		sum, ok := impl.KraftSum(set, letters)
		wantNoValue(t, "KraftSum"+call, sum, ok)
		filled, ok := impl.FillPrefix(set, letters)
		wantNoList(t, "FillPrefix"+call, filled, ok)
		is, ok := impl.IsMaximalPrefix(set, letters)
		wantNoValue(t, "IsMaximalPrefix"+call, is, ok)
		for k := range 5 {
			sum, ok = impl.SumsOfPowers(set, letters, k)
			wantNoValue(t, "SumsOfPowers"+call, sum, ok)
		}
		missing, ok := impl.FirstMissing(set, letters)
		wantNoValue(t, "FirstMissing"+call, missing, ok)
		is, ok = impl.IsCompleteSet(set, letters)
		wantNoValue(t, "IsCompleteSet"+call, is, ok)
	}
	for _, set := range noSets {
		check(set, 2)
		check(set, 3)
	}
	for _, letters := range noLetters {
		check(nil, letters)
		check(list("a"), letters)
		check(list("a b"), letters)
	}
	for _, set := range []string{"c", "a b c", "aaaaaaac", "a cb", "a bc"} {
		check(list(set), 2)
	}
}

func TestAllLengths(t *testing.T) {
	for letters := 2; letters <= 3; letters++ {
		for most := 1; most <= 8; most++ {
			for n := range 13 {
				var want [][]int
				for _, lengths := range lengthLists(n, most) {
					if isFull(letters, lengths) {
						want = append(want, lengths)
					}
				}
				call := fmt.Sprintf("(%d, %d, %d)", n, most, letters)
				number, ok := impl.CountLengths(n, most, letters)
				wantValue(t, "CountLengths"+call, number, ok, len(want))
				all, ok := impl.AllLengths(n, most, letters)
				if n > 8 {
					wantNoList(t, "AllLengths"+call, all, ok)
				} else {
					wantLists(t, "AllLengths"+call, all, ok, want)
				}
			}
		}
	}
}

func isFull(letters int, lengths []int) bool {
	units := []int{256, 128, 64, 32, 16, 8, 4, 2, 1}
	if letters == 3 {
		units = []int{6561, 2187, 729, 243, 81, 27, 9, 3, 1}
	}
	sum := 0
	for _, length := range lengths {
		sum += units[length]
	}
	return sum == units[0]
}

func TestAllLengthsOfTheDocument(t *testing.T) {
	for _, c := range []struct {
		n, most, letters int
		want             [][]int
	}{
		{0, 8, 2, nil}, {1, 8, 2, nil}, {1, 1, 3, nil}, {2, 1, 2, [][]int{{1, 1}}}, {3, 8, 2, [][]int{{1, 2, 2}}}, {4, 8, 2, [][]int{{1, 2, 3, 3}, {2, 2, 2, 2}}},
		{4, 2, 2, [][]int{{2, 2, 2, 2}}}, {4, 1, 2, nil}, {3, 1, 3, [][]int{{1, 1, 1}}}, {5, 8, 3, [][]int{{1, 1, 2, 2, 2}}}, {4, 8, 3, nil},
	} {
		got, ok := impl.AllLengths(c.n, c.most, c.letters)
		wantLists(t, fmt.Sprintf("AllLengths(%d, %d, %d)", c.n, c.most, c.letters), got, ok, c.want)
	}
	for n, want := range []int{0, 0, 1, 1, 2, 3, 5, 9, 16, 28, 49} {
		got, ok := impl.CountLengths(n, 8, 2)
		wantValue(t, fmt.Sprintf("CountLengths(%d, 8, 2)", n), got, ok, want)
	}
}

func TestNumbersOfLengthsThatAreRefused(t *testing.T) {
	check := func(n int, most int, letters int) {
		t.Helper()
		call := fmt.Sprintf("(%d, %d, %d)", n, most, letters)
		number, ok := impl.CountLengths(n, most, letters)
		wantNoValue(t, "CountLengths"+call, number, ok)
		all, ok := impl.AllLengths(n, most, letters)
		wantNoList(t, "AllLengths"+call, all, ok)
	}
	for _, n := range []int{-1 << 63, -1, 13, 1<<63 - 1} {
		check(n, 8, 2)
		check(n, 1, 3)
	}
	for _, most := range []int{-1 << 63, -1, 0, 9, 1<<63 - 1} {
		check(0, most, 2)
		check(4, most, 2)
		check(8, most, 3)
	}
	for _, letters := range noLetters {
		check(0, 8, letters)
		check(4, 8, letters)
	}
}
