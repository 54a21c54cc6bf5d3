package tests

import (
	"fmt"
	"slices"
	"strings"
	"testing"

	"loop.example/g01164/impl"
)

// The twelve words whose shortest step word has the most letters.
const slowTwelve = "aa aba abb bab bba bbb baab baaab baaaab baaaaab baaaaaaa baaaaaab"

// Complete prefix sets with no common divisor that no word brings in step, and others with one.
var (
	neverInStep = [][]string{
		list("aa aba abb baa bba baba babb bbba bbbb"), list("ab aaa baa bba bbb aaba aabb baba babb"), list("ba aaa aab abb bbb abaa abab bbaa bbab"), list("bb aab abb baa bab aaaa aaab abaa abab"),
	}
	withDivisor = [][]string{
		list("aa ab ba bb"), list("aa ab ba bbaa bbab bbba bbbb"), list("aaa aab aba abb baa bab bba bbb"), list("aa ab ac ba bb bc ca cb cc"), list("aa bb abaa abab abba abbb baaa baab baba babb"),
	}
)

// Sets that are no complete prefix sets: no prefix sets, some with the sum 1, and prefix sets that leave room.
var noCompleteSets = slices.Concat(noPrefixSets, [][]string{
	nil, list("a"), list("b"), list("c"), list("a c"), list("b c"), list("a ba"), list("aa ab ba"), list("a ab bb"), list("b aa ba"), list("a aa ab"), list("c ab cc"),
	list("a ba bb bc"), list("a c ba bb"), list("a b ca cb"), list("c aa ab ba bb"), list("aaaaaaaa"), twelve(), splitUpTo(2, 12)[1:], splitUpTo(3, 11)[:10],
})

// stepSets lists complete prefix sets: all of few words, and some of up to twelve.
func stepSets() [][]string {
	var sets [][]string
	for n := 2; n <= 7; n++ {
		sets = append(sets, completeSets(2, n)...)
	}
	for n := 3; n <= 7; n += 2 {
		sets = append(sets, completeSets(3, n)...)
	}
	for i, set := range completeSets(2, 9) {
		if i%40 == 0 {
			sets = append(sets, set)
		}
	}
	sets = append(sets, splitUpTo(2, 12), splitUpTo(3, 11), list(slowTwelve))
	return slices.Concat(sets, neverInStep, withDivisor)
}

// alphabetOf is that of three letters for sets with a c.
func alphabetOf(set []string) string {
	if strings.Contains(textOf(set), "c") {
		return "abc"
	}
	return "ab"
}

// leftBehind reads words of a set from the left of a text, and returns what is left.
func leftBehind(set []string, text string) string {
	for beginsWithOne(text, set) {
		i := slices.IndexFunc(set, func(s string) bool { return strings.HasPrefix(text, s) })
		text = text[len(set[i]):]
	}
	return text
}

// statesBehind lists the indices of the states to which a word leads from each one of given indices; states are told, as they are slow to find.
func statesBehind(set []string, states []string, from []int, s string) []int {
	var behind []int
	for _, i := range from {
		behind = append(behind, slices.Index(states, leftBehind(set, states[i]+s)))
	}
	return behind
}

func indicesUpTo(n int) []int {
	var indices []int
	for i := range n {
		indices = append(indices, i)
	}
	return indices
}

func different(numbers []int) []int {
	sorted := slices.Clone(numbers)
	slices.Sort(sorted)
	return slices.Compact(sorted)
}

func TestStatesOf(t *testing.T) {
	for _, c := range []struct {
		set  string
		want []string
	}{
		{"a b", []string{""}}, {"a b c", []string{""}}, {"a ba bb", []string{"", "b"}}, {"b aa ab", []string{"", "a"}}, {"aa ab ba bb", []string{"", "a", "b"}}, {"a b ca cb cc", []string{"", "c"}},
		{"b c aa ab ac", []string{"", "a"}}, {"a ba bba bbb", []string{"", "b", "bb"}}, {slowTwelve, []string{"", "a", "b", "ab", "ba", "bb", "baa", "baaa", "baaaa", "baaaaa", "baaaaaa"}},
	} {
		got, ok := impl.StatesOf(list(c.set))
		wantList(t, "StatesOf("+c.set+")", got, ok, c.want)
	}
	for _, set := range stepSets() {
		got, ok := impl.StatesOf(set)
		wantList(t, fmt.Sprintf("StatesOf(%q)", set), got, ok, innerWords(set))
	}
}

func TestStateAfter(t *testing.T) {
	for _, c := range []struct {
		set   string
		state int
		s     string
		want  int
	}{
		{"a ba bb", 0, "", 0}, {"a ba bb", 1, "", 1}, {"a ba bb", 0, "a", 0}, {"a ba bb", 0, "b", 1}, {"a ba bb", 1, "a", 0}, {"a ba bb", 1, "b", 0}, {"a ba bb", 1, "bb", 1}, {"a ba bb", 0, "abab", 1},
		{"a b", 0, "", 0}, {"a b", 0, "abba", 0}, {"a b c", 0, "cab", 0}, {"aa ab ba bb", 1, "b", 0}, {"aa ab ba bb", 2, "bb", 2}, {"aa ab ba bb", 0, "aab", 2}, {"a b ca cb cc", 0, "cc", 0}, {"a b ca cb cc", 1, "cc", 1},
		{"a ba bba bbb", 2, "bb", 1}, {"a ba bba bbb", 1, "bbb", 1}, {slowTwelve, 10, "b", 0}, {slowTwelve, 9, "a", 10}, {slowTwelve, 0, "baaaaaa", 10}, {slowTwelve, 10, "aba", 4},
	} {
		got, ok := impl.StateAfter(list(c.set), c.state, c.s)
		wantValue(t, fmt.Sprintf("StateAfter(%s, %d, %s)", c.set, c.state, c.s), got, ok, c.want)
	}
}

// Promise 5: words lead states to states, and those that lead all of them to one bring in step.
func TestWordsLeadStatesToStates(t *testing.T) {
	for _, set := range stepSets() {
		words := wordsUpTo(alphabetOf(set), 8-2*len(alphabetOf(set)))
		words = append(words, strings.Repeat("ab", 30), strings.Repeat("bbaab", 12), strings.Repeat("a", 59)+"b")
		states := innerWords(set)
		all := indicesUpTo(len(states))
		for _, s := range words {
			call := fmt.Sprintf("(%q, %q)", set, s)
			want := statesBehind(set, states, all, s)
			for i := range all {
				got, ok := impl.StateAfter(set, i, s)
				wantValue(t, fmt.Sprintf("StateAfter %d of %s", i, call), got, ok, want[i])
			}
			behind, ok := impl.StatesBehind(set, s)
			wantList(t, "StatesBehind"+call, behind, ok, different(want))
			is, ok := impl.IsStepWord(set, s)
			wantValue(t, "IsStepWord"+call, is, ok, len(different(want)) == 1)
		}
	}
}

func TestStatesBehindAndIsStepWord(t *testing.T) {
	for _, c := range []struct {
		set, s string
		want   []int
	}{
		{"a b", "", []int{0}}, {"a b", "ab", []int{0}}, {"a b c", "", []int{0}}, {"a b c", "c", []int{0}}, {"a ba bb", "", []int{0, 1}}, {"a ba bb", "a", []int{0}}, {"a ba bb", "b", []int{0, 1}},
		{"a ba bb", "ab", []int{1}}, {"aa ab ba bb", "", []int{0, 1, 2}}, {"aa ab ba bb", "a", []int{0, 1}}, {"aa ab ba bb", "b", []int{0, 2}}, {"a b ca cb cc", "c", []int{0, 1}}, {"a b ca cb cc", "bc", []int{1}},
		{"a ba bba bbb", "bb", []int{0, 1, 2}}, {"a ba bba bbb", "abb", []int{2}}, {slowTwelve, "", indicesUpTo(11)}, {slowTwelve, "aaaaaaabaaaaaaa", []int{0}}, {slowTwelve, "aaaaaaabaaaaaa", []int{1, 10}},
	} {
		got, ok := impl.StatesBehind(list(c.set), c.s)
		wantList(t, "StatesBehind("+c.set+", "+c.s+")", got, ok, c.want)
		is, ok := impl.IsStepWord(list(c.set), c.s)
		wantValue(t, "IsStepWord("+c.set+", "+c.s+")", is, ok, len(c.want) == 1)
	}
}

// firstLeading returns the first of some words that leads given states to one.
func firstLeading(set []string, from []int, words []string) (string, bool) {
	states := innerWords(set)
	for _, s := range words {
		if len(different(statesBehind(set, states, from, s))) == 1 {
			return s, true
		}
	}
	return "", false
}

// wantWord compares a result with a word that may not exist.
func wantWord(t *testing.T, call string, got string, ok bool, want string, exists bool) {
	t.Helper()
	if exists {
		wantValue(t, call, got, ok, want)
	} else {
		wantNoValue(t, call, got, ok)
	}
}

// pairsThatMeet has the pairs of states, each of the lower index first, that are led to one, found from the ends of such words.
func pairsThatMeet(set []string) map[[2]int]bool {
	meet := map[[2]int]bool{}
	states := innerWords(set)
	for found := true; found; {
		found = false
		for j := range states {
			for i := range j {
				for _, letter := range strings.Split(alphabetOf(set), "") {
					next := different(statesBehind(set, states, []int{i, j}, letter))
					if !meet[[2]int{i, j}] && (len(next) == 1 || meet[[2]int(next)]) {
						meet[[2]int{i, j}], found = true, true
					}
				}
			}
		}
	}
	return meet
}

// Promise 5: words bring in step, and states meet. All words are tried in order; the longest ones that are needed have 7 letters here.
func TestFirstWordsThatBringInStepAndMeet(t *testing.T) {
	sets := slices.DeleteFunc(stepSets(), func(set []string) bool { return len(set) > 8 })
	for _, set := range sets {
		words := wordsUpTo(alphabetOf(set), 11-2*len(alphabetOf(set)))
		number := len(innerWords(set))
		want, exists := firstLeading(set, indicesUpTo(number), words)
		got, ok := impl.ShortestStepWord(set)
		wantWord(t, fmt.Sprintf("ShortestStepWord(%q)", set), got, ok, want, exists)
		can, ok := impl.CanBeInStep(set)
		wantValue(t, fmt.Sprintf("CanBeInStep(%q)", set), can, ok, exists)
		for i := range number {
			for j := range number {
				want, exists := firstLeading(set, []int{i, j}, words)
				got, ok := impl.MeetingWord(set, i, j)
				wantWord(t, fmt.Sprintf("MeetingWord(%q, %d, %d)", set, i, j), got, ok, want, exists)
			}
		}
	}
}

// Promise 5: there are such words exactly if all pairs meet, and a common divisor greater than 1 forbids it.
func TestSetsAreInStepIfAllPairsMeet(t *testing.T) {
	for _, set := range stepSets() {
		states := innerWords(set)
		number := len(states)
		meet := pairsThatMeet(set)
		allMeet := len(meet) == number*(number-1)/2
		can, ok := impl.CanBeInStep(set)
		wantValue(t, fmt.Sprintf("CanBeInStep(%q)", set), can, ok, allMeet)
		s, exists := impl.ShortestStepWord(set)
		if exists != allMeet || exists && len(different(statesBehind(set, states, indicesUpTo(number), s))) != 1 {
			t.Errorf("ShortestStepWord(%q) = %q, %v; all pairs meet: %v", set, s, exists, allMeet)
		}
		if divisor, ok := impl.CommonDivisor(set); !ok || divisor > 1 && exists {
			t.Errorf("CommonDivisor(%q) = %d, %v; ShortestStepWord is %q, %v", set, divisor, ok, s, exists)
		}
		for j := range number {
			for i := range j {
				s, exists := impl.MeetingWord(set, i, j)
				if exists != meet[[2]int{i, j}] || exists && len(different(statesBehind(set, states, []int{i, j}, s))) != 1 {
					t.Errorf("MeetingWord(%q, %d, %d) = %q, %v", set, i, j, s, exists)
				}
			}
		}
	}
}

func TestShortestStepWord(t *testing.T) {
	for _, c := range [][2]string{
		{"a b", ""}, {"a b c", ""}, {"a ba bb", "a"}, {"b aa ab", "b"}, {"a b ca cb cc", "a"}, {"b c aa ab ac", "b"}, {"a c ba bb bc", "a"}, {"a bb baa bab", "aa"}, {"aa ab ba bba bbb", "abba"},
		{"aa ab ba bbb bbaa bbab", "abbbaa"}, {"ab aaa aab baa bba bbb baba babb", "aabaaaab"}, {"a b cc caa cab cac cba cbb cbc", "aa"}, {"aa ab ac ba bb bc ca cb cca ccb ccc", "acca"},
		{"aa aba abb bab bba bbb baab baaaa baaab", "aaaababaaaa"}, {slowTwelve, "aaaaaaabaaaaaaa"},
	} {
		got, ok := impl.ShortestStepWord(list(c[0]))
		wantValue(t, "ShortestStepWord("+c[0]+")", got, ok, c[1])
		can, ok := impl.CanBeInStep(list(c[0]))
		wantValue(t, "CanBeInStep("+c[0]+")", can, ok, true)
	}
	for _, set := range slices.Concat(neverInStep, withDivisor) {
		got, ok := impl.ShortestStepWord(set)
		wantNoValue(t, fmt.Sprintf("ShortestStepWord(%q)", set), got, ok)
		can, ok := impl.CanBeInStep(set)
		wantValue(t, fmt.Sprintf("CanBeInStep(%q)", set), can, ok, false)
	}
}

func TestMeetingWord(t *testing.T) {
	for _, c := range []struct {
		set  string
		i, j int
		want string
	}{
		{"a b", 0, 0, ""}, {"a b c", 0, 0, ""}, {"a ba bb", 0, 0, ""}, {"a ba bb", 1, 1, ""}, {"a ba bb", 0, 1, "a"}, {"a ba bb", 1, 0, "a"}, {"aa ab ba bb", 1, 2, "a"}, {"aa ab ba bb", 2, 1, "a"}, {"aa ab ba bb", 2, 2, ""},
		{"aa ab ba bbb bbaa bbab", 0, 1, "bbbaa"}, {"a bb bab baab baaab baaaab baaaaab baaaaaaa baaaaaab", 0, 1, "aaaaaaa"}, {"a b cc caa cab cac cba cbb cbc", 0, 1, "aa"}, {slowTwelve, 1, 4, "abbaaaaaaa"}, {slowTwelve, 10, 10, ""},
	} {
		got, ok := impl.MeetingWord(list(c.set), c.i, c.j)
		wantValue(t, fmt.Sprintf("MeetingWord(%s, %d, %d)", c.set, c.i, c.j), got, ok, c.want)
	}
	// States that never meet, in sets of which others do.
	for _, pair := range [][2]int{{0, 1}, {1, 0}, {0, 2}, {2, 0}} {
		got, ok := impl.MeetingWord(list("aa ab ba bb"), pair[0], pair[1])
		wantNoValue(t, fmt.Sprintf("MeetingWord(aa ab ba bb, %v)", pair), got, ok)
	}
}

func TestCommonDivisor(t *testing.T) {
	for _, c := range []struct {
		set  string
		want int
	}{
		{"a", 1}, {"aa", 2}, {"abc", 3}, {"aaaaaaaa", 8}, {"a b", 1}, {"a aa", 1}, {"aa aaaa", 2}, {"aaaa bbbbbb", 2}, {"aaa bbbbbb", 3}, {"aaaa bbbbbbbb", 4}, {"aa bbb", 1}, {"aaaaaa bbbbbbb", 1},
		{"aaaaaa aaaaaaaa", 2}, {"ab aaaa aaab aaaaaa aaaaaaa", 1}, {"ab aaaa aaab aaaaaa aaaaaaaa", 2}, {"aa ab ba bb", 2}, {"aaa aab aba abb baa bab bba bbb", 3}, {"aa ab ac ba bb bc ca cb cc", 2},
	} {
		got, ok := impl.CommonDivisor(list(c.set))
		wantValue(t, "CommonDivisor("+c.set+")", got, ok, c.want)
	}
	for _, set := range append(smallSets(), mixedSets(1000)...) {
		want := 0
		for d := 1; d <= longest(set); d++ {
			if !slices.ContainsFunc(set, func(s string) bool { return len(s)%d > 0 }) {
				want = d
			}
		}
		got, ok := impl.CommonDivisor(set)
		if len(set) == 0 {
			wantNoValue(t, "CommonDivisor of no words", got, ok)
		} else {
			wantValue(t, fmt.Sprintf("CommonDivisor(%q)", set), got, ok, want)
		}
	}
}

// insides lists, in order, all i, j, k and places for which the word k is within the words i and j, but for these at their own places.
func insides(set []string) [][]int {
	var found [][]int
	for k, inside := range set {
		for j, second := range set {
			for i, first := range set {
				for place := range len(first) + len(second) - len(inside) + 1 {
					if (first + second)[place:place+len(inside)] == inside {
						found = append(found, []int{i, j, k, place})
					}
				}
			}
		}
	}
	found = slices.DeleteFunc(found, func(l []int) bool {
		return slices.Equal(l, []int{l[0], l[1], l[0], 0}) || slices.Equal(l, []int{l[0], l[1], l[1], len(set[l[0]])})
	})
	slices.SortFunc(found, slices.Compare)
	return found
}

// insideSets lists small sets, mixed ones, and many with words of one length.
func insideSets() [][]string {
	sets := append(smallSets(), mixedSets(1000)...)
	sets = append(sets, subsets(allOfLength(2, 3))...)
	sets = append(sets, subsets(allOfLength(3, 2))...)
	for _, words := range []string{"aaab aabb abbb baab abab", "aab aac abb abc acb acc bab bca cab", "aabb aabc acbc abbc abbb aaab cabb bbcc", "ab abb abbb aabbb", "aabbab aababb ababbb aaabbb"} {
		sets = append(sets, subsets(ordered(list(words)))...)
	}
	return sets
}

// Promise 5: comma free sets are codes, and as few words are enough to see that a set is none.
func TestCommaFreeSetsAreCodes(t *testing.T) {
	seen := map[bool]int{}
	for _, set := range insideSets() {
		want := insides(set)
		isFree, ok := impl.IsCommaFree(set)
		wantValue(t, fmt.Sprintf("IsCommaFree(%q)", set), isFree, ok, len(want) == 0)
		first, ok := impl.FirstInside(set)
		if isFree {
			wantNoList(t, fmt.Sprintf("FirstInside(%q)", set), first, ok)
		} else {
			wantList(t, fmt.Sprintf("FirstInside(%q)", set), first, ok, want[0])
		}
		if isCode, _ := impl.IsCode(set); isFree && !isCode {
			t.Errorf("%q is comma free, but no code", set)
		}
		seen[isFree]++
	}
	if seen[false] < 100 || seen[true] < 100 {
		t.Errorf("too few sets: %v", seen)
	}
}

// Sets of one word are comma free unless it is the same word two or more times.
func TestOneWordIsCommaFree(t *testing.T) {
	for _, s := range append(wordsUpTo("ab", 8)[1:], wordsUpTo("abc", 5)[1:]...) {
		place := 1 + strings.Index((s + s)[1:], s)
		got, ok := impl.IsCommaFree([]string{s})
		wantValue(t, "IsCommaFree("+s+")", got, ok, place == len(s))
		first, ok := impl.FirstInside([]string{s})
		if place == len(s) {
			wantNoList(t, "FirstInside("+s+")", first, ok)
		} else {
			wantList(t, "FirstInside("+s+")", first, ok, []int{0, 0, 0, place})
		}
	}
}

func TestIsCommaFreeAndFirstInside(t *testing.T) {
	for _, c := range []struct {
		set  string
		want []int
	}{
		{"", nil}, {"a", nil}, {"aa", []int{0, 0, 0, 1}}, {"abab", []int{0, 0, 0, 2}}, {"aba", nil}, {"aaaaaaaa", []int{0, 0, 0, 1}}, {"abcabcab", nil}, {"aabaabaa", nil}, {"a b", nil}, {"a b c", nil}, {"aab abb", nil},
		// Other words at the beginning of the first one, of the second one, at its end, and within one.
		{"ab aba", []int{0, 0, 1, 0}}, {"a ab", []int{0, 1, 0, 1}}, {"b ab", []int{0, 1, 0, 2}}, {"b aba", []int{0, 1, 0, 2}}, {"ab cabc", []int{0, 1, 0, 3}},
		// Words across two others, which are the same or not.
		{"ab ba", []int{0, 0, 1, 1}}, {"ab bc ca", []int{0, 2, 1, 1}}, {"ab ca bcc", []int{1, 2, 0, 1}}, {"aab aba", []int{0, 0, 1, 1}}, {"abb bab", []int{0, 0, 1, 2}}, {"ab bbaa", []int{1, 1, 0, 3}}, {"ba aabb", []int{1, 1, 0, 3}},
	} {
		got, ok := impl.FirstInside(list(c.set))
		is, isOk := impl.IsCommaFree(list(c.set))
		wantValue(t, "IsCommaFree("+c.set+")", is, isOk, c.want == nil)
		if c.want == nil {
			wantNoList(t, "FirstInside("+c.set+")", got, ok)
		} else {
			wantList(t, "FirstInside("+c.set+")", got, ok, c.want)
		}
	}
}

// turnedWords counts the words of n letters that differ from all their other turns, those that are turns of each other once.
func turnedWords(letters int, n int) int {
	first := map[string]bool{}
	for _, s := range allOfLength(letters, n) {
		var turns []string
		for k := range s {
			turns = append(turns, s[k:]+s[:k])
		}
		if turns = ordered(turns); len(turns) == n {
			first[turns[0]] = true
		}
	}
	return len(first)
}

func TestCountTurnedWords(t *testing.T) {
	for letters, numbers := range map[int][]int{2: {2, 1, 2, 3, 6, 9, 18, 30}, 3: {3, 3, 8, 18, 48, 116, 312, 810}} {
		for i, number := range numbers {
			n := i + 1
			if want := turnedWords(letters, n); want != number {
				t.Fatalf("%d turned words of %d of %d letters", want, n, letters)
			}
			got, ok := impl.CountTurnedWords(letters, n)
			wantValue(t, fmt.Sprintf("CountTurnedWords(%d, %d)", letters, n), got, ok, number)
		}
	}
}

// Comma free sets of words of one length have at most as many words as are counted, and such sets of so short words reach that.
func TestCommaFreeSetsHaveFewWords(t *testing.T) {
	for _, c := range [][2]int{{2, 1}, {2, 2}, {2, 3}, {3, 1}, {3, 2}} {
		most, ok := impl.CountTurnedWords(c[0], c[1])
		found := 0
		for _, set := range subsets(allOfLength(c[0], c[1])) {
			if is, ok := impl.IsCommaFree(set); ok && is {
				found = max(found, len(set))
			}
		}
		wantValue(t, fmt.Sprintf("CountTurnedWords(%d, %d)", c[0], c[1]), most, ok, found)
	}
}

func TestFirstCommaFree(t *testing.T) {
	for _, c := range []struct {
		letters, n int
		want       string
	}{
		{2, 1, "a b"}, {2, 2, "ab"}, {2, 3, "aab abb"}, {2, 4, "aaab aabb abbb"},
		{3, 1, "a b c"}, {3, 2, "ab ac bc"}, {3, 3, "aab aac abb abc acb acc"}, {3, 4, "aaab aaac aabb aabc aacb aacc abac abbb abbc abcb abcc"},
	} {
		var want []string
		for _, s := range allOfLength(c.letters, c.n) {
			longer := append(slices.Clone(want), s)
			if len(longer) <= impl.MaxSet && len(insides(longer)) == 0 {
				want = longer
			}
		}
		got, ok := impl.FirstCommaFree(c.letters, c.n)
		call := fmt.Sprintf("FirstCommaFree(%d, %d)", c.letters, c.n)
		wantList(t, call, got, ok, want)
		wantList(t, call, got, ok, list(c.want))
		most, ok := impl.CountTurnedWords(c.letters, c.n)
		if !ok || len(got) > most {
			t.Errorf("%s has %d words, more than %d", call, len(got), most)
		}
	}
}

func TestNumbersOfTurnedAndCommaFreeWordsThatAreRefused(t *testing.T) {
	check := func(letters int, n int) {
		t.Helper()
		set, ok := impl.FirstCommaFree(letters, n)
		wantNoList(t, fmt.Sprintf("FirstCommaFree(%d, %d)", letters, n), set, ok)
	}
	checkBoth := func(letters int, n int) {
		t.Helper()
		check(letters, n)
		number, ok := impl.CountTurnedWords(letters, n)
		wantNoValue(t, fmt.Sprintf("CountTurnedWords(%d, %d)", letters, n), number, ok)
	}
	for letters := 2; letters <= 3; letters++ {
		for n := 5; n <= 8; n++ {
			check(letters, n)
		}
		for _, n := range []int{-1 << 63, -2, -1, 0, 9, 10, 60, 1<<63 - 1} {
			checkBoth(letters, n)
		}
	}
	for _, letters := range noLetters {
		for n := range 10 {
			checkBoth(letters, n)
		}
	}
}

// wantNoReading requires all functions that need a complete prefix set, and words of its letters, to fail.
func wantNoReading(t *testing.T, set []string, state int, s string) {
	t.Helper()
	call := fmt.Sprintf("(%q, %d, %q)", set, state, s)
	after, ok := impl.StateAfter(set, state, s)
	wantNoValue(t, "StateAfter"+call, after, ok)
	is, ok := impl.IsStepWord(set, s)
	wantNoValue(t, "IsStepWord"+call, is, ok)
	behind, ok := impl.StatesBehind(set, s)
	wantNoList(t, "StatesBehind"+call, behind, ok)
}

func TestSetsThatAreNotReadAreRefused(t *testing.T) {
	tooMany := [][]string{splitUpTo(2, 13), splitUpTo(3, 13)}
	for _, set := range slices.Concat(noSets, noCompleteSets, tooMany) {
		for _, s := range []string{"", "a", "abba"} {
			wantNoReading(t, set, 0, s)
		}
		call := fmt.Sprintf("(%q)", set)
		states, ok := impl.StatesOf(set)
		wantNoList(t, "StatesOf"+call, states, ok)
		step, ok := impl.ShortestStepWord(set)
		wantNoValue(t, "ShortestStepWord"+call, step, ok)
		can, ok := impl.CanBeInStep(set)
		wantNoValue(t, "CanBeInStep"+call, can, ok)
		for _, pair := range [][2]int{{0, 0}, {0, 1}, {1, 0}} {
			meeting, ok := impl.MeetingWord(set, pair[0], pair[1])
			wantNoValue(t, "MeetingWord"+call, meeting, ok)
		}
	}
	for _, set := range append(noSets, tooMany...) {
		divisor, ok := impl.CommonDivisor(set)
		wantNoValue(t, fmt.Sprintf("CommonDivisor(%q)", set), divisor, ok)
		is, ok := impl.IsCommaFree(set)
		wantNoValue(t, fmt.Sprintf("IsCommaFree(%q)", set), is, ok)
		inside, ok := impl.FirstInside(set)
		wantNoList(t, fmt.Sprintf("FirstInside(%q)", set), inside, ok)
	}
}

func TestWordsAndStatesThatAreRefused(t *testing.T) {
	for _, set := range [][]string{list("a b"), list("a ba bb"), splitUpTo(2, 12)} {
		for _, s := range append(noWordTexts, "c", "abc", "cab", "aca", strings.Repeat("a", 59)+"c", strings.Repeat("ab", 31)) {
			wantNoReading(t, set, 0, s)
		}
	}
	for _, set := range [][]string{list("a b c"), list("a b ca cb cc"), splitUpTo(3, 11)} {
		for _, s := range append(noWordTexts, strings.Repeat("c", 61)) {
			wantNoReading(t, set, 0, s)
		}
	}
	for _, set := range stepSets() {
		number := len(innerWords(set))
		for _, state := range []int{-1 << 63, -2, -1, number, number + 1, len(set), 12, 16, 63, 64, 1<<63 - 1} {
			if state >= 0 && state < number {
				continue
			}
			call := fmt.Sprintf("(%q, %d)", set, state)
			after, ok := impl.StateAfter(set, state, "")
			wantNoValue(t, "StateAfter"+call, after, ok)
			after, ok = impl.StateAfter(set, state, "ab")
			wantNoValue(t, "StateAfter"+call, after, ok)
			for _, pair := range [][2]int{{state, 0}, {0, state}, {number - 1, state}, {state, state}} {
				s, ok := impl.MeetingWord(set, pair[0], pair[1])
				wantNoValue(t, fmt.Sprintf("MeetingWord(%q, %v)", set, pair), s, ok)
			}
		}
	}
}
