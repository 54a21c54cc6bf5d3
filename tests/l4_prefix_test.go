package tests

import (
	"fmt"
	"slices"
	"strings"
	"testing"

	"loop.example/g01164/impl"
)

// Sets that are no prefix sets.
var noPrefixSets = [][]string{list("a ab"), list("a b ab"), list("a ba baa"), list("ab abbbbbbb"), list("a aa"), list("b c aa ccc")}

// Sets by which letters are replaced: of 2 or 3 words, codes and others.
func replacements() [][]string {
	codes := []string{
		"a b", "b c", "a b c", "a bb", "aa ab ba", "a ab bb", "ab cab", "a bc cab", "b c aa", "aaaa bbbb", "aaaaaaaa bbbbbbbb", "a aaaaaaab", "aaab aaba baaa", "c aaaaaaab bbbbbbba",
	}
	others := []string{"a aa", "a b ab", "a ab ba", "aa aaa", "b ab bab", "aaaa aaaaaa"}
	var sets [][]string
	for _, words := range append(codes, others...) {
		sets = append(sets, list(words))
	}
	return sets
}

// prefixSets lists small prefix sets, some of all sizes, and complete ones of up to twelve words.
func prefixSets() [][]string {
	sets := append(smallPrefixSets(2, 3), smallPrefixSets(3, 2)...)
	for _, set := range mixedSets(1500) {
		if hasNoBeginning(set) {
			sets = append(sets, set)
		}
	}
	for n := 2; n <= 9; n++ {
		sets = append(sets, completeSets(2, n)...)
		sets = append(sets, completeSets(3, n)...)
	}
	return append(sets, splitUpTo(2, 12), splitUpTo(3, 11))
}

// splitUpTo lists a complete prefix set of n words or one more, the first word that does not begin with a being split until there are so many.
func splitUpTo(letters int, n int) []string {
	set := list("a b c")[:letters]
	for len(set) < n {
		i := slices.IndexFunc(set, func(s string) bool { return s >= "b" })
		set = split(set, i, letters)
	}
	return set
}

// split puts all words with one letter more in place of a word.
func split(set []string, i int, letters int) []string {
	others := slices.Delete(slices.Clone(set), i, i+1)
	for _, letter := range list("a b c")[:letters] {
		others = append(others, set[i]+letter)
	}
	return ordered(others)
}

func textOf(set []string) string {
	return strings.Join(set, ",")
}

// completeSets lists all complete prefix sets of n words, by their texts, from those of fewer words that are split.
func completeSets(letters int, n int) [][]string {
	known := map[string]bool{}
	level := [][]string{list("a b c")[:letters]}
	for len(level[0]) < n {
		var next [][]string
		for _, set := range level {
			for i := range set {
				longer := split(set, i, letters)
				if !known[textOf(longer)] {
					known[textOf(longer)] = true
					next = append(next, longer)
				}
			}
		}
		level = next
	}
	if len(level[0]) > n {
		return nil
	}
	slices.SortFunc(level, func(s, t []string) int { return strings.Compare(textOf(s), textOf(t)) })
	return level
}

// innerWords tries all words: they are beginnings of words, but no words of the set with which no other one begins.
func innerWords(set []string) []string {
	begins := func(s string) int {
		number := 0
		for _, word := range set {
			if strings.HasPrefix(word, s) {
				number++
			}
		}
		return number
	}
	return slices.DeleteFunc(wordsUpTo("abc", longest(set)), func(s string) bool {
		return begins(s) == 0 || begins(s) == 1 && slices.Contains(set, s)
	})
}

func longest(set []string) int {
	return slices.Max(append(lengthsOf(set), 0))
}

func TestInnerWords(t *testing.T) {
	for _, c := range []struct {
		set  string
		want []string
	}{
		{"", nil}, {"a", []string{""}}, {"a b c", []string{""}}, {"a ba bb", []string{"", "b"}}, {"a ab", []string{"", "a"}}, {"a ab abc", []string{"", "a", "ab"}},
		{"ab ba", []string{"", "a", "b"}}, {"b abaab", []string{"", "a", "ab", "aba", "abaa"}}, {"aa ab ba", []string{"", "a", "b"}},
		{"cccccccc", []string{"", "c", "cc", "ccc", "cccc", "ccccc", "cccccc", "ccccccc"}}, {"c bb aaa", []string{"", "a", "b", "aa"}},
	} {
		got, ok := impl.InnerWords(list(c.set))
		wantList(t, "InnerWords("+c.set+")", got, ok, c.want)
	}
	for _, set := range append(smallSets(), mixedSets(500)...) {
		got, ok := impl.InnerWords(set)
		wantList(t, fmt.Sprintf("InnerWords(%q)", set), got, ok, innerWords(set))
	}
	for _, set := range noSets {
		got, ok := impl.InnerWords(set)
		wantNoList(t, "InnerWords", got, ok)
	}
}

// The inner words are no set: twelve words of eight letters have up to 73 of them.
func TestInnerWordsMayBeMoreThanASet(t *testing.T) {
	set := list("aaaaaaaa aabaaaaa abaaaaaa abbaaaaa acaaaaaa baaaaaaa bbaaaaaa bcaaaaaa caaaaaaa cbaaaaaa ccaaaaaa ccbaaaaa")
	got, ok := impl.InnerWords(set)
	wantList(t, "InnerWords", got, ok, innerWords(set))
	if len(got) != 73 {
		t.Errorf("InnerWords has %d words", len(got))
	}
}

func replaced(set []string, by []string) []string {
	pairs := list("a A b B c C")
	for k, s := range by {
		pairs[2*k+1] = s
	}
	replacer := strings.NewReplacer(pairs...)
	var words []string
	for _, s := range set {
		words = append(words, replacer.Replace(s))
	}
	return words
}

// wantNoSetsRefused tries lists that are no set as each argument.
func wantNoSetsRefused(t *testing.T, name string, f func([]string, []string) ([]string, bool)) {
	t.Helper()
	for _, set := range noSets {
		for _, pair := range [][2][]string{{set, list("a b c")}, {list("a b"), set}, {nil, set}, {set, set}} {
			got, ok := f(pair[0], pair[1])
			wantNoList(t, fmt.Sprintf("%s(%q, %q)", name, pair[0], pair[1]), got, ok)
		}
	}
}

func TestReplaceLetters(t *testing.T) {
	for _, c := range [][3]string{
		{"", "a b", ""}, {"", "a b c", ""}, {"a ba bb", "a bb", "a bba bbbb"}, {"a", "c ab", "c"}, {"b", "c ab", "ab"}, {"a b c", "a b ab", "a b ab"},
		{"ab ba", "b aaa", "aaab baaa"}, {"a b aa", "bb aaaa", "bb aaaa bbbb"}, {"c ab", "b c aa", "aa bc"}, {"a b", "aaaaaaaa bbbbbbbb", "aaaaaaaa bbbbbbbb"},
		{"a ab", "aaaa bbbb", "aaaa aaaabbbb"}, {"aaaaaaaa", "b cc", "bbbbbbbb"}, {"a aa", "a aa", "a aa"},
	} {
		got, ok := impl.ReplaceLetters(list(c[0]), list(c[1]))
		wantList(t, "ReplaceLetters("+c[0]+" by "+c[1]+")", got, ok, list(c[2]))
	}
	for _, c := range [][2]string{
		// Letters without a word.
		{"c", "a b"}, {"a b c", "a b"}, {"a abbbbbbc", "a b"},
		// Words that become the same, next to each other or not.
		{"b aa", "a aa"}, {"c ab", "a b ab"}, {"ab ba", "a aa"}, {"b c aa", "a b aa"}, {"c aa ab", "a b ab"},
		// Words that become too long by one letter.
		{"ab", "aaaa bbbbb"}, {"aaaaaaab", "a bb"}, {"aa", "aaaaaaaa bbbbbbbb"}, {"bbbbbbbb", "a bbbbbbbb"},
		// One word, none, or four.
		{"a", "a"}, {"", "a"}, {"", ""}, {"a", ""}, {"a b", "a b c aa"}, {"", "a b c aa"}, {"a", "aa"},
	} {
		got, ok := impl.ReplaceLetters(list(c[0]), list(c[1]))
		wantNoList(t, "ReplaceLetters("+c[0]+" by "+c[1]+")", got, ok)
	}
	wantNoSetsRefused(t, "ReplaceLetters", impl.ReplaceLetters)
}

// Promise 4: codes are joined. If both sets are codes, or prefix sets, the result is one, too.
func TestReplacedLettersKeepCodes(t *testing.T) {
	for _, by := range replacements() {
		byIsCode, _ := impl.IsCode(by)
		for _, set := range append(smallSets(), mixedSets(500)...) {
			call := fmt.Sprintf("ReplaceLetters(%q, %q)", set, by)
			got, ok := impl.ReplaceLetters(set, by)
			if len(withLetters([][]string{set}, len(by))) == 0 {
				wantNoList(t, call, got, ok)
				continue
			}
			want := ordered(replaced(set, by))
			if len(want) < len(set) || longest(want) > impl.MaxLength {
				wantNoList(t, call, got, ok)
				continue
			}
			wantList(t, call, got, ok, want)
			setIsCode, _ := impl.IsCode(set)
			if isCode, _ := impl.IsCode(got); setIsCode && byIsCode && !isCode {
				t.Errorf("%s = %q is no code", call, got)
			}
			if hasNoBeginning(set) && hasNoBeginning(by) && !hasNoBeginning(got) {
				t.Errorf("%s = %q is no prefix set", call, got)
			}
		}
	}
}

// originals lists by what is written for them all words that have letters replaced.
func originals(by []string) map[string]string {
	words := wordsUpTo("abc"[:len(by)], impl.MaxLength)[1:]
	known := map[string]string{}
	for i, s := range replaced(words, by) {
		known[s] = words[i]
	}
	return known
}

func TestFactorOver(t *testing.T) {
	for _, c := range [][3]string{
		{"", "a b", ""}, {"", "a ab bb", ""}, {"a bba bbbb", "a bb", "a ba bb"}, {"a ba bb", "a b", "a ba bb"}, {"ab", "a b", "ab"}, {"b", "a b c", "b"},
		{"aaaaaaaa", "a b", "aaaaaaaa"}, {"aaaaaaaa", "b aaaaaaaa", "b"}, {"abb", "a ab bb", "ac"}, {"abbb", "a ab bb", "bc"}, {"aa bc", "b c aa", "c ab"},
		// The order of the words is another one: 4 letters are one, 2 letters are two.
		{"bb aaaa", "b aaaa", "b aa"}, {"bbb aaaa abab", "aaaa abab bbb", "a b c"}, {"bb bbb aaaa", "b aaaa", "b aa aaa"},
	} {
		by, _ := impl.SetOf(list(c[1]))
		got, ok := impl.FactorOver(list(c[0]), by)
		wantList(t, "FactorOver("+c[0]+" by "+c[1]+")", got, ok, list(c[2]))
	}
	for _, c := range [][2]string{
		// Words that are not written so.
		{"b", "a bb"}, {"a bbb", "a bb"}, {"c", "a b"}, {"a ab ac", "a b"}, {"ba", "aa ab bb"}, {"aaaaaaa", "aa b"},
		// Others than codes of 2 or 3 words, even if the set could be read.
		{"a", "a aa"}, {"", "a aa"}, {"aba", "a ab ba"}, {"b", "a b ab"}, {"a", "a"}, {"", "a"}, {"", ""}, {"a", ""}, {"aa", "aa ab ba bb"}, {"", "aa ab ba bb"},
	} {
		got, ok := impl.FactorOver(list(c[0]), list(c[1]))
		wantNoList(t, "FactorOver("+c[0]+" by "+c[1]+")", got, ok)
	}
	wantNoSetsRefused(t, "FactorOver", impl.FactorOver)
}

func TestFactorsAreWhatIsReplaced(t *testing.T) {
	for _, by := range replacements() {
		isCode, _ := impl.IsCode(by)
		known := originals(by)
		for _, set := range append(smallSets(), mixedSets(500)...) {
			call := fmt.Sprintf("FactorOver(%q, %q)", set, by)
			checkFactor(t, set, by, isCode)
			got, ok := impl.FactorOver(set, by)
			var want []string
			for _, s := range set {
				if original, isKnown := known[s]; isKnown {
					want = append(want, original)
				}
			}
			if !isCode || len(want) < len(set) {
				wantNoList(t, call, got, ok)
				continue
			}
			wantList(t, call, got, ok, ordered(want))
			back, ok := impl.ReplaceLetters(got, by)
			wantList(t, fmt.Sprintf("ReplaceLetters(%q, %q)", got, by), back, ok, set)
		}
	}
}

func checkFactor(t *testing.T, set []string, by []string, isCode bool) {
	t.Helper()
	joined, isJoined := impl.ReplaceLetters(set, by)
	if !isJoined {
		return
	}
	got, ok := impl.FactorOver(joined, by)
	if isCode {
		wantList(t, fmt.Sprintf("FactorOver(%q, %q)", joined, by), got, ok, set)
	} else {
		wantNoList(t, fmt.Sprintf("FactorOver(%q, %q)", joined, by), got, ok)
	}
}

func TestPutBehind(t *testing.T) {
	for _, c := range []struct {
		set         string
		i           int
		other, want string
	}{
		{"a b", 0, "a b", "b aa ab"}, {"a b", 1, "a b", "a ba bb"}, {"a", 0, "a", "aa"}, {"a", 0, "a b c", "aa ab ac"}, {"a", 0, "", ""}, {"a b", 0, "", "b"}, {"a b", 1, "", "a"},
		{"a ba bb", 1, "b ab", "a bb bab baab"}, {"a ba bb", 2, "c", "a ba bbc"}, {"ab", 0, "c ab", "abc abab"}, {"b c aa", 2, "aa bb", "b c aaaa aabb"},
		{"aaaa", 0, "bbbb", "aaaabbbb"}, {"a", 0, "aaaaaaa", "aaaaaaaa"}, {"aaaaaaa", 0, "a b c", "aaaaaaaa aaaaaaab aaaaaaac"}, {"aaaaaaaa", 0, "", ""},
		{"a b ca cb cca ccb ccc", 0, "a ba bb bc ca cb", "b aa ca cb aba abb abc aca acb cca ccb ccc"},
	} {
		got, ok := impl.PutBehind(list(c.set), c.i, list(c.other))
		wantList(t, fmt.Sprintf("PutBehind(%s, %d, %s)", c.set, c.i, c.other), got, ok, list(c.want))
	}
	for _, c := range []struct {
		set   string
		i     int
		other string
	}{
		// Results of 13 words or of words of 9 letters.
		{"a b ca cb cca ccb ccc", 0, "a ba bb bc ca cb cc"}, {"a b ca cb cca ccb ccc", 6, "a ba bb bc ca cb cc"}, {"aaaa", 0, "bbbbb"}, {"aaaaaaaa", 0, "a"}, {"a", 0, "a bbbbbbbb"}, {"aaaaaaa", 0, "a bb"},
		// No such index.
		{"", 0, ""}, {"", 0, "a"}, {"", -1, "a"}, {"a", 1, "a"}, {"a", -1, "a"}, {"a b", 2, "a"}, {"a b", -1 << 63, "a"}, {"a b", 1<<63 - 1, ""},
	} {
		got, ok := impl.PutBehind(list(c.set), c.i, list(c.other))
		wantNoList(t, fmt.Sprintf("PutBehind(%s, %d, %s)", c.set, c.i, c.other), got, ok)
	}
	for _, set := range append(noSets, noPrefixSets...) {
		for i := range set {
			got, ok := impl.PutBehind(set, i, list("a b"))
			wantNoList(t, "PutBehind", got, ok)
			got, ok = impl.PutBehind(set, i, nil)
			wantNoList(t, "PutBehind", got, ok)
		}
		for i := range 2 {
			got, ok := impl.PutBehind(list("a b"), i, set)
			wantNoList(t, fmt.Sprintf("PutBehind(a b, %d, %q)", i, set), got, ok)
		}
	}
}

// Promise 4: codes are joined. Sets put behind a word make prefix sets, and complete ones if both are complete.
func TestSetsPutBehindWordsArePrefixSets(t *testing.T) {
	sets := append(smallPrefixSets(2, 2), smallPrefixSets(3, 1)...)
	for _, set := range mixedSets(200) {
		if hasNoBeginning(set) {
			sets = append(sets, set)
		}
	}
	sets = append(sets, completeSets(2, 4)...)
	sets = append(sets, completeSets(2, 7)[7], completeSets(2, 8)[8], completeSets(3, 5)[0], completeSets(3, 7)[5], splitUpTo(2, 12), splitUpTo(3, 11))
	for _, set := range sets {
		for _, other := range sets {
			for i := range set {
				checkPutBehind(t, set, i, other)
			}
		}
	}
}

func checkPutBehind(t *testing.T, set []string, i int, other []string) {
	t.Helper()
	var want []string
	for k, s := range set {
		if k != i {
			want = append(want, s)
		}
	}
	for _, s := range other {
		want = append(want, set[i]+s)
	}
	call := fmt.Sprintf("PutBehind(%q, %d, %q)", set, i, other)
	got, ok := impl.PutBehind(set, i, other)
	if len(want) > impl.MaxSet || longest(want) > impl.MaxLength {
		wantNoList(t, call, got, ok)
		return
	}
	wantList(t, call, got, ok, ordered(want))
	is, ok := impl.IsPrefixSet(got)
	wantValue(t, fmt.Sprintf("IsPrefixSet(%q)", got), is, ok, true)
	for letters := 2; letters <= 3; letters++ {
		one, _ := impl.IsMaximalPrefix(set, letters)
		two, _ := impl.IsMaximalPrefix(other, letters)
		if one && two {
			checkComplete(t, got, letters)
		}
	}
}

func TestIsTwoSidedAndIsPartFree(t *testing.T) {
	for _, c := range []struct {
		set                string
		twoSided, partFree bool
	}{
		{"", true, true}, {"a", true, true}, {"a b c", true, true}, {"aa ab ba bb", true, true}, {"a ba bb", false, false}, {"a ab bb", false, false}, {"a bb bab", true, false},
		{"aa bab bba", true, true}, {"b aca", true, true}, {"b aba", true, false}, {"aa bb abba", true, false}, {"ab cabc", true, false}, {"aba baab", true, true}, {"ab aab", false, false},
		{"bb abba", true, false}, {"aaaaaaaa bbbbbbbb", true, true}, {"b aaaaaaaa", true, true}, {"c aaaacaaa", true, false}, {"a bac", true, false}, {"ab abab", false, false},
		{"aaa aab bab aabab", false, false}, {"aaa aba abb baa bab bbb aabaa aabab babaa babab", false, false}, {"ab ba aaa bbb", true, true}, {"aaa aab aba abb baa bab bba bbb", true, true},
	} {
		set, isSet := impl.SetOf(list(c.set))
		if !isSet || len(set) != len(list(c.set)) {
			t.Fatalf("%s is no set", c.set)
		}
		got, ok := impl.IsTwoSided(set)
		wantValue(t, "IsTwoSided("+c.set+")", got, ok, c.twoSided)
		got, ok = impl.IsPartFree(set)
		wantValue(t, "IsPartFree("+c.set+")", got, ok, c.partFree)
	}
	for _, set := range append(smallSets(), mixedSets(2000)...) {
		twoSided, partFree := true, true
		for _, s := range set {
			for _, word := range set {
				twoSided = twoSided && (s == word || !strings.HasPrefix(s, word) && !strings.HasSuffix(s, word))
				partFree = partFree && (s == word || !strings.Contains(s, word))
			}
		}
		got, ok := impl.IsTwoSided(set)
		wantValue(t, fmt.Sprintf("IsTwoSided(%q)", set), got, ok, twoSided)
		got, ok = impl.IsPartFree(set)
		wantValue(t, fmt.Sprintf("IsPartFree(%q)", set), got, ok, partFree)
	}
	for _, set := range noSets {
		got, ok := impl.IsTwoSided(set)
		wantNoValue(t, "IsTwoSided", got, ok)
		got, ok = impl.IsPartFree(set)
		wantNoValue(t, "IsPartFree", got, ok)
	}
}

func levelsOf(set []string) [][]int {
	levels := [][]int{{0, 0}}
	for length := 1; length <= longest(set); length++ {
		levels = append(levels, []int{0, 0})
	}
	for _, s := range set {
		levels[len(s)][0]++
	}
	for _, s := range innerWords(set) {
		levels[len(s)][1]++
	}
	return levels
}

// Promise 4: words are counted by their lengths.
func TestLevelsOf(t *testing.T) {
	for _, c := range []struct {
		set  string
		want [][]int
	}{
		{"", [][]int{{0, 0}}}, {"a", [][]int{{0, 1}, {1, 0}}}, {"a b c", [][]int{{0, 1}, {3, 0}}}, {"a ba bb", [][]int{{0, 1}, {1, 1}, {2, 0}}},
		{"a ab", [][]int{{0, 1}, {1, 1}, {1, 0}}}, {"ab", [][]int{{0, 1}, {0, 1}, {1, 0}}}, {"c aaa bbb", [][]int{{0, 1}, {1, 2}, {0, 2}, {2, 0}}},
		{"aaaaaaaa", [][]int{{0, 1}, {0, 1}, {0, 1}, {0, 1}, {0, 1}, {0, 1}, {0, 1}, {0, 1}, {1, 0}}},
		{"a aaaaaaaa bbbbbbbb", [][]int{{0, 1}, {1, 2}, {0, 2}, {0, 2}, {0, 2}, {0, 2}, {0, 2}, {0, 2}, {2, 0}}},
		{"aa ab ac ba bb bc ca cb cca ccb ccc", [][]int{{0, 1}, {0, 3}, {8, 1}, {3, 0}}},
	} {
		got, ok := impl.LevelsOf(list(c.set))
		wantLists(t, "LevelsOf("+c.set+")", got, ok, c.want)
	}
	for _, set := range append(smallSets(), mixedSets(500)...) {
		got, ok := impl.LevelsOf(set)
		wantLists(t, fmt.Sprintf("LevelsOf(%q)", set), got, ok, levelsOf(set))
	}
	for _, set := range noSets {
		got, ok := impl.LevelsOf(set)
		wantNoList(t, "LevelsOf", got, ok)
	}
}

// Words and inner words of complete prefix sets are the letters behind the inner words one letter shorter.
func TestLevelsOfCompletePrefixSets(t *testing.T) {
	for letters := 2; letters <= 3; letters++ {
		for n := letters; n <= 9; n++ {
			for _, set := range completeSets(letters, n) {
				got, ok := impl.LevelsOf(set)
				if !ok || len(got) != longest(set)+1 {
					t.Fatalf("LevelsOf(%q) = %v, %v", set, got, ok)
				}
				for k, level := range got[1:] {
					wantValue(t, fmt.Sprintf("LevelsOf(%q) at %d", set, k+1), level[0]+level[1], ok, letters*got[k][1])
				}
			}
		}
	}
}

func TestReadFromLeft(t *testing.T) {
	long := strings.Repeat("ab", 30)
	for _, c := range []struct {
		set, s string
		want   []int
		left   string
	}{
		{"a ba bb", "abab", []int{0, 1}, "b"}, {"a ba bb", "", nil, ""}, {"", "", nil, ""}, {"", "abc", nil, "abc"}, {"a", "aaa", []int{0, 0, 0}, ""}, {"a", "b", nil, "b"},
		{"a", "aba", []int{0}, "ba"}, {"a ba bb", "b", nil, "b"}, {"a ba bb", "bb", []int{2}, ""}, {"a ba bb", "bba", []int{2, 0}, ""}, {"a ba bb", "abbcab", []int{0, 2}, "cab"},
		{"ab", long, make([]int, 30), ""}, {"ba", long, nil, long}, {"a b", long[:59] + "c", slices.Concat(slices.Repeat([]int{0, 1}, 29), []int{0}), "c"}, {"c aa ab", "aaabcba", []int{1, 2, 0}, "ba"},
		{"aaaaaaaa", strings.Repeat("a", 60), make([]int, 7), "aaaa"}, {"a", strings.Repeat("a", 60), make([]int, 60), ""},
	} {
		got, left, ok := impl.ReadFromLeft(list(c.set), c.s)
		wantList(t, "ReadFromLeft("+c.set+", "+c.s+")", got, ok, c.want)
		wantValue(t, "ReadFromLeft("+c.set+", "+c.s+")", left, ok, c.left)
	}
	refuse := func(set []string, s string) {
		t.Helper()
		got, left, ok := impl.ReadFromLeft(set, s)
		wantNoList(t, fmt.Sprintf("ReadFromLeft(%q, %q)", set, s), got, ok)
		wantNoValue(t, fmt.Sprintf("ReadFromLeft(%q, %q)", set, s), left, ok)
	}
	for _, set := range append(noSets, noPrefixSets...) {
		refuse(set, "")
		refuse(set, "ab")
		refuse(set, "cab")
	}
	for _, s := range noWordTexts {
		refuse(nil, s)
		refuse(list("a"), s)
		refuse(list("a b"), s)
	}
}

// Promise 4: what is read from the left is written so, and no word can be read behind it.
func TestWhatIsReadFromLeftIsWrittenSo(t *testing.T) {
	words := wordsUpTo("abc", 5)
	long := strings.Repeat("abcabbacbbaaaab", 4)
	for k := range len(long) {
		words = append(words, long[k:])
	}
	sets := slices.DeleteFunc(prefixSets(), func(set []string) bool { return len(set) == 9 })
	for _, set := range sets {
		for _, s := range words {
			message, left, ok := impl.ReadFromLeft(set, s)
			written, isWritten := impl.WriteMessage(set, message)
			if !ok || !isWritten || written+left != s || beginsWithOne(left, set) {
				t.Errorf("ReadFromLeft(%q, %q) = %v, %q, %v", set, s, message, left, ok)
			}
		}
	}
}

// Promise 4: complete prefix sets are counted.
func TestCompletePrefixSetsAreCounted(t *testing.T) {
	for letters, numbers := range map[int][]int{2: {0, 1, 2, 5, 14, 42, 132, 429, 1430}, 3: {0, 0, 1, 0, 3, 0, 12, 0, 55}} {
		for i, number := range numbers {
			n := i + 1
			var want [][]string
			if n > 1 {
				want = completeSets(letters, n)
			}
			if len(want) != number {
				t.Fatalf("%d complete prefix sets of %d words of %d letters", len(want), n, letters)
			}
			call := fmt.Sprintf("(%d, %d)", letters, n)
			got, ok := impl.CountCompletePrefix(letters, n)
			wantValue(t, "CountCompletePrefix"+call, got, ok, number)
			all, ok := impl.AllCompletePrefix(letters, n)
			if n > 6 {
				wantNoList(t, "AllCompletePrefix"+call, all, ok)
			} else {
				wantLists(t, "AllCompletePrefix"+call, all, ok, want)
			}
		}
	}
}

// The sets of nine words have all lengths up to the greatest one, and none has longer words.
func TestNineWordsReachTheGreatestLength(t *testing.T) {
	found := 0
	for _, set := range completeSets(2, 9) {
		found = max(found, longest(set))
	}
	if found != impl.MaxLength {
		t.Fatalf("nine words have up to %d letters", found)
	}
}

// All complete prefix sets are among all prefix sets that leave no room.
func TestAllCompletePrefix(t *testing.T) {
	for _, c := range []struct{ letters, most int }{{2, 3}, {3, 2}} {
		known := map[int][][]string{}
		for _, set := range smallPrefixSets(c.letters, c.most) {
			if isFull(c.letters, lengthsOf(set)) {
				known[len(set)] = append(known[len(set)], set)
			}
		}
		// Sets with more words can be deeper.
		for n := 1; n <= 1+c.most*(c.letters-1); n++ {
			want := known[n]
			slices.SortFunc(want, func(s, t []string) int { return strings.Compare(textOf(s), textOf(t)) })
			got, ok := impl.AllCompletePrefix(c.letters, n)
			wantLists(t, fmt.Sprintf("AllCompletePrefix(%d, %d)", c.letters, n), got, ok, want)
			for _, set := range got {
				checkComplete(t, set, c.letters)
			}
		}
	}
	for _, c := range []struct {
		letters, n int
		want       []string
	}{
		{2, 1, nil}, {3, 1, nil}, {2, 2, []string{"a b"}}, {3, 2, nil}, {2, 3, []string{"a ba bb", "b aa ab"}}, {3, 3, []string{"a b c"}}, {3, 4, nil},
		{2, 4, []string{"a ba bba bbb", "a bb baa bab", "aa ab ba bb", "b aa aba abb", "b ab aaa aab"}}, {3, 5, []string{"a b ca cb cc", "a c ba bb bc", "b c aa ab ac"}},
	} {
		var want [][]string
		for _, set := range c.want {
			want = append(want, list(set))
		}
		got, ok := impl.AllCompletePrefix(c.letters, c.n)
		wantLists(t, fmt.Sprintf("AllCompletePrefix(%d, %d)", c.letters, c.n), got, ok, want)
	}
}

func TestNumbersOfCompletePrefixSetsThatAreRefused(t *testing.T) {
	check := func(letters int, n int) {
		t.Helper()
		call := fmt.Sprintf("(%d, %d)", letters, n)
		number, ok := impl.CountCompletePrefix(letters, n)
		wantNoValue(t, "CountCompletePrefix"+call, number, ok)
		all, ok := impl.AllCompletePrefix(letters, n)
		wantNoList(t, "AllCompletePrefix"+call, all, ok)
	}
	for _, n := range []int{-1 << 63, -2, -1, 0, 10, 11, 1<<63 - 1} {
		check(2, n)
		check(3, n)
	}
	for _, letters := range noLetters {
		for n := range 8 {
			check(letters, n)
		}
	}
}

// shrunk tries all words as inner words from the last one.
func shrunk(set []string) ([]string, bool) {
	letters := list("a b")
	if strings.Contains(textOf(set), "c") {
		letters = list("a b c")
	}
	words := wordsUpTo("abc", longest(set))
	slices.Reverse(words)
	for _, inner := range words {
		others := slices.Clone(set)
		for _, letter := range letters {
			others = slices.DeleteFunc(others, func(s string) bool { return s == inner+letter })
		}
		if len(others) == len(set)-len(letters) {
			return ordered(append(others, inner)), inner != ""
		}
	}
	return nil, false
}

func TestShrinkPrefix(t *testing.T) {
	for _, c := range [][2]string{
		{"a ba bb", "a b"}, {"b aa ab", "a b"}, {"aa ab ba bb", "b aa ab"}, {"aa ab", "a"}, {"ba bb", "b"}, {"ca cb cc", "c"}, {"a b ca cb cc", "a b c"}, {"b c aa ab ac", "a b c"},
		{"c aa ab ac", "a c"}, {"aaaaaaaa aaaaaaab", "aaaaaaa"}, {"aaaaaaaa aaaaaaab aaaaaaac", "aaaaaaa"}, {"ba bb aaa aab", "aa ba bb"}, {"ab bba bbb aaaa aaab", "ab aaa bba bbb"},
		{"aa ab ac ba bb bc ca cb cca ccb ccc", "aa ab ac ba bb bc ca cb cc"}, {"ba bb aaba", "b aaba"}, {"ba bb aba", "b aba"}, {"a ba bba bbba bbbba bbbbba bbbbbba bbbbbbba bbbbbbbb", "a ba bba bbba bbbba bbbbba bbbbbba bbbbbbb"},
	} {
		got, ok := impl.ShrinkPrefix(list(c[0]))
		wantList(t, "ShrinkPrefix("+c[0]+")", got, ok, list(c[1]))
	}
	// None, the empty word, one letter that leads to no word, and no third letter.
	for _, set := range []string{"", "a", "a b", "a b c", "a ba", "aa ba", "ab", "c aa ab", "ca cb", "ac ba bb", "a b ca cb"} {
		got, ok := impl.ShrinkPrefix(list(set))
		wantNoList(t, "ShrinkPrefix("+set+")", got, ok)
	}
	// Lists in which all letters lead from an inner word to words, but that are no prefix sets, or no sets.
	refused := [][]string{
		list("a b aa ab"), list("b ba bb"), list("aa ab aaa"), list("ba bb baa bab"), list("ab aa"), list("aa ab b"), list("aa aa ab"), list("aaaaaaaaa aaaaaaaab"), list("da db"), {"a,a", "a,b"},
		splitUpTo(2, 13), splitUpTo(3, 13),
	}
	for _, set := range slices.Concat(refused, noSets, noPrefixSets) {
		got, ok := impl.ShrinkPrefix(set)
		wantNoList(t, fmt.Sprintf("ShrinkPrefix(%q)", set), got, ok)
	}
}

// Promise 4: codes are shrunk. Letters put behind the inner word make the set again.
func TestShrunkSetsArePutBehindAgain(t *testing.T) {
	for _, set := range prefixSets() {
		got, ok := impl.ShrinkPrefix(set)
		call := fmt.Sprintf("ShrinkPrefix(%q)", set)
		want, isShrunk := shrunk(set)
		if !isShrunk {
			wantNoList(t, call, got, ok)
			continue
		}
		wantList(t, call, got, ok, want)
		is, ok := impl.IsPrefixSet(got)
		wantValue(t, fmt.Sprintf("IsPrefixSet(%q)", got), is, ok, true)
		i := slices.IndexFunc(got, func(s string) bool { return !slices.Contains(set, s) })
		letters := list("a b c")[:1+len(set)-len(got)]
		back, ok := impl.PutBehind(got, i, letters)
		wantList(t, fmt.Sprintf("PutBehind(%q, %d)", got, i), back, ok, set)
	}
}

// Complete prefix sets are shrunk until they are the letters alone.
func TestCompletePrefixSetsAreShrunkToTheLetters(t *testing.T) {
	for letters := 2; letters <= 3; letters++ {
		for n := letters; n <= 9; n += letters - 1 {
			for _, set := range completeSets(letters, n) {
				for len(set) > letters {
					smaller, ok := impl.ShrinkPrefix(set)
					if !ok || len(smaller) != len(set)-letters+1 {
						t.Fatalf("ShrinkPrefix(%q) = %q, %v", set, smaller, ok)
					}
					set = smaller
				}
				wantList(t, "shrunk", set, true, list("a b c")[:letters])
			}
		}
	}
}
