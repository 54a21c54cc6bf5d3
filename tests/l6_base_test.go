package tests

import (
	"fmt"
	"regexp"
	"slices"
	"strings"
	"testing"

	"loop.example/g01164/impl"
)

// Sets that write just as many words of at most eight letters as the limit allows, and one more.
const (
	writes200 = "b ba abb bab abba baaa aaabbb"
	writes201 = "b abc aca acb aabb"
)

// Words that are their own roots, and powers of words, up to the longest ones.
var powers = []struct {
	s, root string
	power   int
}{
	{"a", "a", 1}, {"c", "c", 1}, {"ab", "ab", 1}, {"aba", "aba", 1}, {"aab", "aab", 1}, {"abaab", "abaab", 1}, {"aabaabaa", "aabaabaa", 1}, {"abababa", "abababa", 1}, {"abcab", "abcab", 1},
	{"aa", "a", 2}, {"bbb", "b", 3}, {"abab", "ab", 2}, {"aabaab", "aab", 2}, {"abcabc", "abc", 2}, {"aaaaaa", "a", 6}, {"abaabaabaaba", "aba", 4}, {"abaaba", "aba", 2},
	{strings.Repeat("a", 60), "a", 60}, {strings.Repeat("c", 59), "c", 59}, {strings.Repeat("ab", 30), "ab", 30}, {strings.Repeat("abc", 20), "abc", 20},
	{strings.Repeat(strings.Repeat("a", 29)+"b", 2), strings.Repeat("a", 29) + "b", 2}, {strings.Repeat(strings.Repeat("a", 19)+"b", 3), strings.Repeat("a", 19) + "b", 3},
	{strings.Repeat("a", 59) + "b", strings.Repeat("a", 59) + "b", 1}, {strings.Repeat("ab", 29) + "aa", strings.Repeat("ab", 29) + "aa", 1}, {strings.Repeat("ab", 29) + "a", strings.Repeat("ab", 29) + "a", 1},
}

// writtenBy tells the words that a set writes by a pattern.
func writtenBy(set []string) func(string) bool {
	pattern := regexp.MustCompile("^(" + strings.Join(set, "|") + ")*$")
	return pattern.MatchString
}

// isJoined reports whether a word is two others, not empty, one behind the other, of a kind.
func isJoined(s string, is func(string) bool) bool {
	for k := 1; k < len(s); k++ {
		if is(s[:k]) && is(s[k:]) {
			return true
		}
	}
	return false
}

// leastGenerators keeps the words that are not two that are written, as two or more words are.
func leastGenerators(set []string) []string {
	isWritten := writtenBy(set)
	return slices.DeleteFunc(slices.Clone(set), func(s string) bool { return isJoined(s, isWritten) })
}

// writtenUpTo takes the words that are written out of all words of the letters of a set.
func writtenUpTo(set []string, n int) []string {
	isWritten := writtenBy(set)
	return slices.DeleteFunc(wordsUpTo(alphabetOf(set), n)[1:], func(s string) bool { return !isWritten(s) })
}

// generatedSets lists small sets and some of all sizes.
func generatedSets() [][]string {
	return append(smallSets(), mixedSets(1500)...)
}

// Promise 6: least generators write the same.
func TestLeastGeneratorsWriteTheSame(t *testing.T) {
	for _, set := range generatedSets() {
		call := fmt.Sprintf("LeastGenerators(%q)", set)
		least, ok := impl.LeastGenerators(set)
		wantList(t, call, least, ok, leastGenerators(set))
		if isWritten := writtenBy(least); slices.ContainsFunc(set, func(s string) bool { return !isWritten(s) }) {
			t.Errorf("%s = %q does not write all words", call, least)
		}
		again, ok := impl.LeastGenerators(least)
		wantList(t, call+" again", again, ok, least)
		if isCode, _ := impl.IsCode(set); isCode {
			wantList(t, call, least, ok, set)
		}
		for n := range 10 {
			number, _ := impl.CountWritten(set, n)
			got, ok := impl.CountWritten(least, n)
			wantValue(t, fmt.Sprintf("CountWritten(%q, %d)", least, n), got, ok, number)
		}
	}
}

func TestLeastGenerators(t *testing.T) {
	for _, c := range []struct{ set, want string }{
		{"", ""}, {"a", "a"}, {"cab", "cab"}, {"aaaaaaaa", "aaaaaaaa"}, {"a b ab", "a b"}, {"a b c", "a b c"}, {"a aa aaa", "a"}, {"aa aaa", "aa aaa"}, {"aa aaa aaaa aaaaa", "aa aaa"}, {"a ab ba", "a ab ba"},
		{"a aba", "a aba"}, {"a ab aba", "a ab"}, {"c ab abcab", "c ab"}, {"ab ba abba baab", "ab ba"}, {"b aab abb abbabb", "b aab abb"}, {"a aaaaaaaa", "a"}, {"aaa aaaaaaaa", "aaa aaaaaaaa"}, {"aa ab ba bb", "aa ab ba bb"},
		{"a c bc abc cbca cabcabca", "a c bc"}, {strings.Join(twelve(), " "), "a b c"},
	} {
		got, ok := impl.LeastGenerators(list(c.set))
		wantList(t, "LeastGenerators("+c.set+")", got, ok, list(c.want))
	}
}

func TestWrittenUpTo(t *testing.T) {
	for _, c := range []struct {
		set  string
		n    int
		want string
	}{
		{"", 0, ""}, {"", 8, ""}, {"a", 0, ""}, {"a b c", 0, ""}, {"a", 1, "a"}, {"ab", 1, ""}, {"a b", 2, "a b aa ab ba bb"}, {"aa aaa", 6, "aa aaa aaaa aaaaa aaaaaa"}, {"a ab ba", 3, "a aa ab ba aaa aab aba baa"},
		{"ab", 8, "ab abab ababab abababab"}, {"ab", 7, "ab abab ababab"}, {"aaaaaaaa", 8, "aaaaaaaa"}, {"aaaaaaaa", 7, ""}, {"c ab", 3, "c ab cc abc cab ccc"}, {"b aa", 4, "b aa bb aab baa bbb aaaa aabb baab bbaa bbbb"},
	} {
		got, ok := impl.WrittenUpTo(list(c.set), c.n)
		wantList(t, fmt.Sprintf("WrittenUpTo(%s, %d)", c.set, c.n), got, ok, list(c.want))
	}
}

func TestWrittenWordsAreThoseThatAreRead(t *testing.T) {
	for i, set := range generatedSets() {
		most := impl.MaxLength
		if alphabetOf(set) == "abc" || i%5 > 0 {
			most = 5
		}
		all := writtenUpTo(set, most)
		for n := range most + 1 {
			want := slices.DeleteFunc(slices.Clone(all), func(s string) bool { return len(s) > n })
			call := fmt.Sprintf("WrittenUpTo(%q, %d)", set, n)
			got, ok := impl.WrittenUpTo(set, n)
			if len(want) > impl.MaxWritten {
				wantNoList(t, call, got, ok)
			} else {
				wantList(t, call, got, ok, want)
			}
		}
	}
}

func TestWrittenUpToOfMaxWritten(t *testing.T) {
	for _, c := range []struct {
		set       string
		n, number int
	}{
		{writes200, 8, 200}, {"c ba ca baa bbc cbb cbc accc", 6, 200}, {writes201, 8, 201}, {"a c bac acab aabca aacba", 6, 201}, {"a b", 6, 126}, {"a b", 7, 254}, {"a b c", 4, 120}, {"a b c", 5, 363},
	} {
		want := writtenUpTo(list(c.set), c.n)
		if len(want) != c.number {
			t.Fatalf("%s writes %d words; want %d", c.set, len(want), c.number)
		}
		call := fmt.Sprintf("WrittenUpTo(%s, %d)", c.set, c.n)
		got, ok := impl.WrittenUpTo(list(c.set), c.n)
		if c.number > impl.MaxWritten {
			wantNoList(t, call, got, ok)
			got, ok = impl.WrittenUpTo(list(c.set), c.n-1)
			wantList(t, call+" less 1", got, ok, slices.DeleteFunc(want, func(s string) bool { return len(s) == c.n }))
		} else {
			wantList(t, call, got, ok, want)
		}
	}
}

// meetGenerators takes the words that both sets write out of all, and then those that are not two of them.
func meetGenerators(a []string, b []string, n int) []string {
	isA, isB := writtenBy(a), writtenBy(b)
	isBoth := func(s string) bool { return isA(s) && isB(s) }
	return slices.DeleteFunc(wordsUpTo(alphabetOf(a), n)[1:], func(s string) bool { return !isBoth(s) || isJoined(s, isBoth) })
}

func TestMeetGenerators(t *testing.T) {
	for _, c := range []struct {
		a, b string
		n    int
		want string
	}{
		{"", "", 8, ""}, {"", "a", 8, ""}, {"a", "", 8, ""}, {"a", "b", 8, ""}, {"a b", "a b", 0, ""}, {"a b", "a b", 1, "a b"}, {"a b", "a b", 6, "a b"}, {"a b c", "a b c", 4, "a b c"},
		{"aa", "aaa", 8, "aaaaaa"}, {"aa", "aaa", 5, ""}, {"aa", "aaa", 6, "aaaaaa"}, {"aa aaa", "a", 8, "aa aaa"}, {"ab ba", "a b", 4, "ab ba"}, {"a ab", "a ba", 8, "a aba ababa abababa"}, {"a ba", "a ab", 4, "a aba"},
		{"aaaaaaaa", "aa", 8, "aaaaaaaa"}, {"aaaaaaaa", "aa", 7, ""}, {"c ab", "a bc", 8, "abc"}, {"c ab", "a bc", 2, ""}, {"a b ab", "ab ba", 4, "ab ba"}, {"aaaa", "aaaaaa", 8, ""}, {"aa ba", "a b ab", 4, "aa ba"},
	} {
		got, ok := impl.MeetGenerators(list(c.a), list(c.b), c.n)
		wantList(t, fmt.Sprintf("MeetGenerators(%s, %s, %d)", c.a, c.b, c.n), got, ok, list(c.want))
	}
}

func TestMeetGeneratorsMakeWhatBothSetsWrite(t *testing.T) {
	sets := slices.DeleteFunc(mixedSets(400), func(set []string) bool { return len(set) == 0 })
	for i, set := range smallSets() {
		if i%20 == 0 {
			sets = append(sets, set)
		}
	}
	for i, a := range sets {
		for _, b := range [][]string{a, sets[(i+1)%len(sets)], sets[(7*i+3)%len(sets)], sets[(11*i+5)%len(sets)]} {
			for n := 3; n <= 5; n++ {
				checkMeetGenerators(t, a, b, n)
			}
		}
	}
}

func checkMeetGenerators(t *testing.T, a []string, b []string, n int) {
	t.Helper()
	call := fmt.Sprintf("MeetGenerators(%q, %q, %d)", a, b, n)
	got, ok := impl.MeetGenerators(a, b, n)
	want := meetGenerators(a, b, n)
	if len(want) > impl.MaxSet || max(len(writtenUpTo(a, n)), len(writtenUpTo(b, n))) > impl.MaxWritten {
		wantNoList(t, call, got, ok)
		return
	}
	wantList(t, call, got, ok, want)
	_, isNoCodeA := firstDouble(a)
	_, isNoCodeB := firstDouble(b)
	if isCode, valid := impl.IsCode(got); !valid || !isCode && !isNoCodeA && !isNoCodeB {
		t.Errorf("%s = %q is no code", call, got)
	}
}

func TestMeetGeneratorsOfMaxSet(t *testing.T) {
	for _, c := range []struct {
		a, b      string
		n, number int
	}{
		{"a ba bb", "b aa ab", 7, 12}, {"b aa ba", "a ab bb", 7, 12}, {"c bb ca aaa aab baa", "b aa ba bcb ccb", 6, 12}, {"a aab baa", "aa ba bb aba bbaa", 8, 12}, {"b aa ab", "a ba bba", 7, 13}, {"b aba abb", "ba bb baa bba", 8, 13}, {"b ab bb aab bab", "ba bb abb baa bab", 8, 13},
	} {
		a, b := list(c.a), list(c.b)
		for _, pair := range [][2][]string{{a, b}, {b, a}} {
			if want := meetGenerators(pair[0], pair[1], c.n); len(want) != c.number {
				t.Fatalf("%q are %d words; want %d", want, len(want), c.number)
			}
			checkMeetGenerators(t, pair[0], pair[1], c.n)
		}
	}
}

func TestMeetGeneratorsOfMaxWritten(t *testing.T) {
	for _, c := range []struct {
		set    string
		n      int
		writes bool
	}{
		{writes200, 8, true}, {writes201, 8, false}, {writes201, 7, true}, {"a b", 6, true}, {"a b", 7, false}, {"b c", 8, false},
	} {
		call := fmt.Sprintf("MeetGenerators of %s and b, %d", c.set, c.n)
		one, ok := impl.MeetGenerators(list(c.set), list("b"), c.n)
		other, otherOk := impl.MeetGenerators(list("b"), list(c.set), c.n)
		if c.writes {
			wantList(t, call, one, ok, list("b"))
			wantList(t, call, other, otherOk, list("b"))
		} else {
			wantNoList(t, call, one, ok)
			wantNoList(t, call, other, otherOk)
		}
	}
	got, ok := impl.MeetGenerators(list("a b"), list("a b"), 7)
	wantNoList(t, "MeetGenerators of a, b and itself", got, ok)
}

// codesOfShortWords has all codes of words of at most three letters a and b.
func codesOfShortWords() [][]string {
	return slices.DeleteFunc(subsets(wordsUpTo("ab", 3)[1:]), func(set []string) bool {
		_, isDouble := firstDouble(set)
		return isDouble
	})
}

// maskOf has a bit for each of some words that is of a kind.
func maskOf(words []string, is func(string) bool) int {
	mask := 0
	for i, s := range words {
		if is(s) {
			mask |= 1 << i
		}
	}
	return mask
}

// Promise 6: hulls are codes, which write what a set writes, and nothing that another such code does not write.
// Another code that writes a set needs only words that are within its words, and these are among all short ones.
func TestHullsAreTheLeastCodesThatWriteSets(t *testing.T) {
	words := wordsUpTo("ab", 3)[1:]
	var written []int
	for _, code := range codesOfShortWords() {
		written = append(written, maskOf(words, writtenBy(code)))
	}
	for _, set := range smallSets() {
		hull, ok := impl.FreeHull(set)
		call := fmt.Sprintf("FreeHull(%q)", set)
		checkHull(t, call, set, hull, ok)
		ofSet := maskOf(words, func(s string) bool { return slices.Contains(set, s) })
		ofHull := maskOf(words, func(s string) bool { return slices.Contains(hull, s) })
		for _, mask := range written {
			if mask&ofSet == ofSet && mask&ofHull != ofHull {
				t.Fatalf("%s = %q writes more than another code", call, hull)
			}
		}
	}
}

// checkHull tells codes that write a set, and have fewer words than it if it is none.
func checkHull(t *testing.T, call string, set []string, hull []string, ok bool) {
	t.Helper()
	if !ok || !impl.IsSet(hull) {
		t.Fatalf("%s = %q, %v", call, hull, ok)
	}
	if _, isDouble := firstDouble(hull); isDouble {
		t.Errorf("%s = %q is no code", call, hull)
	}
	isWritten := writtenBy(hull)
	if slices.ContainsFunc(set, func(s string) bool { return !isWritten(s) }) {
		t.Errorf("%s = %q does not write all words", call, hull)
	}
	if _, isDouble := firstDouble(set); !isDouble {
		wantList(t, call, hull, ok, set)
	} else if len(hull) >= len(set) {
		t.Errorf("%s = %q has too many words", call, hull)
	}
}

// canMeet writes a rest and words behind it, and words alone, letter by letter, until both end together.
func canMeet(set []string, rest string) bool {
	type pair struct{ with, alone string }
	reached := map[pair]bool{}
	open := []pair{{rest, ""}}
	for len(open) > 0 {
		left := open[0]
		open = open[1:]
		for _, letter := range list("a b c") {
			for _, with := range restsBehind(set, left.with, letter) {
				for _, alone := range restsBehind(set, left.alone, letter) {
					if next := (pair{with, alone}); !reached[next] {
						reached[next] = true
						open = append(open, next)
					}
				}
			}
		}
	}
	return reached[pair{}]
}

// hullSteps takes the steps word for word as the document tells.
func hullSteps(set []string) [][]string {
	least := leastGenerators(set)
	steps := [][]string{least}
	for _, isDouble := firstDouble(least); isDouble; _, isDouble = firstDouble(least) {
		least = leastGenerators(stepped(least))
		steps = append(steps, least)
	}
	return steps
}

// stepped has a rest in place of the first word that has one that can meet.
func stepped(set []string) []string {
	for i, s := range set {
		for j, beginning := range set {
			if i != j && strings.HasPrefix(s, beginning) && canMeet(set, s[len(beginning):]) {
				changed := slices.Clone(set)
				changed[i] = s[len(beginning):]
				return ordered(changed)
			}
		}
	}
	return nil
}

func TestHullStepsAreThoseOfTheDocument(t *testing.T) {
	for _, set := range generatedSets() {
		steps, ok := impl.HullSteps(set)
		call := fmt.Sprintf("HullSteps(%q)", set)
		wantLists(t, call, steps, ok, hullSteps(set))
		hull, ok := impl.FreeHull(set)
		wantList(t, fmt.Sprintf("FreeHull(%q)", set), hull, ok, steps[len(steps)-1])
		checkHull(t, call, set, hull, ok)
	}
}

func TestHullSteps(t *testing.T) {
	long := strings.Join(twelve(), " ")
	for _, c := range []struct {
		set  string
		want []string
	}{
		{"", []string{""}}, {"a", []string{"a"}}, {"aaaaaaaa", []string{"aaaaaaaa"}}, {"a b c", []string{"a b c"}}, {"a ab bb", []string{"a ab bb"}}, {"aa ab ba bb", []string{"aa ab ba bb"}}, {"ab abba", []string{"ab abba"}},
		{"a b ab", []string{"a b"}}, {"a aa aaa", []string{"a"}}, {long, []string{"a b c"}}, {"a ab ba", []string{"a ab ba", "a b"}}, {"aa aaa", []string{"aa aaa", "a"}}, {"aaaa aaaaaa", []string{"aaaa aaaaaa", "aa"}},
		{"aaaaa aaaaaaaa", []string{"aaaaa aaaaaaaa", "aaa aaaaa", "aa aaa", "a"}}, {"aaaa aaaaaa aaaaaaa", []string{"aaaa aaaaaa aaaaaaa", "aa aaaaaaa", "aa aaaaa", "aa aaa", "a"}}, {"ab aba bab", []string{"ab aba bab", "a ab bab", "a b"}},
		// Both rests of abc can meet, bc as bcab and c as ca: that behind a, the first word, comes in place.
		{"a ab ca abc bcab", []string{"a ab ca abc bcab", "a ab bc ca", "a b bc ca", "a b c"}},
		{"aaa abbb baab bbbaab aabbaab abbbabb", []string{"aaa abbb baab bbbaab aabbaab abbbabb", "aaa abb abbb baab bbbaab aabbaab", "b aaa abb baab aabbaab", "b aaa aab abb"}},
	} {
		var want [][]string
		for _, step := range c.want {
			want = append(want, list(step))
		}
		got, ok := impl.HullSteps(list(c.set))
		wantLists(t, "HullSteps("+c.set+")", got, ok, want)
		hull, ok := impl.FreeHull(list(c.set))
		wantList(t, "FreeHull("+c.set+")", hull, ok, want[len(want)-1])
	}
}

// The rests that can meet may do so in words of more letters than MaxWord.
func TestHullsOfSetsThatAreRefusedByLongWords(t *testing.T) {
	for without := range 3 {
		set, double := longDouble(without)
		steps, ok := impl.HullSteps(set)
		wantLists(t, "HullSteps", steps, ok, hullSteps(set))
		hull, ok := impl.FreeHull(set)
		checkHull(t, "FreeHull", set, hull, ok)
		can, ok := impl.CanMeet(set, "aaaaabb")
		wantValue(t, fmt.Sprintf("CanMeet in %d letters", len(double)-1), can, ok, true)
	}
}

func TestCanMeet(t *testing.T) {
	for _, c := range []struct {
		set, rest string
		want      bool
	}{
		{"", "a", false}, {"a", "a", true}, {"a", "b", false}, {"a", "aaaaaaaa", true}, {"a", "aaaaaaab", false}, {"a ab ba", "a", true}, {"a ab ba", "b", true}, {"a ab ba", "c", false}, {"a ab ba", "bb", false}, {"a ab bb", "b", false},
		{"aa aaa", "a", true}, {"aa", "a", false}, {"aa", "aa", true}, {"aa", "aaaa", true}, {"aa", "aaa", false}, {"ab", "a", false}, {"ab", "b", false}, {"ab", "ba", false}, {"ab", "aba", false}, {"ab", "abab", true}, {"a ba bb", "b", true},
		{"aaaaaaaa", "aaaaaaaa", true}, {"aaaaaaaa", "aaaa", false}, {"aaaaaa aaaaaaaa", "aaaa", true}, {"c abcabcab", "abcabcab", true}, {"c abcabcab", "abcabca", false}, {"b abab", "aba", true}, {"ba abab", "ab", false},
	} {
		got, ok := impl.CanMeet(list(c.set), c.rest)
		wantValue(t, "CanMeet("+c.set+", "+c.rest+")", got, ok, c.want)
	}
}

func TestRestsMeetLetterByLetter(t *testing.T) {
	for i, set := range generatedSets() {
		rests := wordsUpTo("abc", 2)[1:]
		for _, s := range set {
			for k := range len(s) {
				rests = append(rests, s[k:], s[:k]+"a")
			}
		}
		if i%10 == 0 {
			rests = append(rests, wordsUpTo("ab", 4)...)
			rests = append(rests, "abababab", "aaaaaaaa", "cbacbacb")
		}
		for _, rest := range ordered(rests) {
			if rest != "" {
				got, ok := impl.CanMeet(set, rest)
				wantValue(t, fmt.Sprintf("CanMeet(%q, %q)", set, rest), got, ok, canMeet(set, rest))
			}
		}
	}
}

func TestNumbersAndRestsThatAreRefused(t *testing.T) {
	for _, set := range [][]string{nil, list("a"), list("a ab ba"), list("aaaaaaaa")} {
		for _, n := range []int{-1 << 63, -8, -1, 9, 10, 1<<63 - 1} {
			written, ok := impl.WrittenUpTo(set, n)
			wantNoList(t, fmt.Sprintf("WrittenUpTo(%q, %d)", set, n), written, ok)
			meet, ok := impl.MeetGenerators(set, set, n)
			wantNoList(t, fmt.Sprintf("MeetGenerators(%q, %q, %d)", set, set, n), meet, ok)
		}
		for _, rest := range append(noWordTexts, "", "aaaaaaaaa", "abaababab", strings.Repeat("a", 60)) {
			can, ok := impl.CanMeet(set, rest)
			wantNoValue(t, fmt.Sprintf("CanMeet(%q, %q)", set, rest), can, ok)
		}
	}
}

func TestSetsThatWriteNothingAreRefused(t *testing.T) {
	for _, set := range noSets {
		call := fmt.Sprintf("(%q)", set)
		least, ok := impl.LeastGenerators(set)
		wantNoList(t, "LeastGenerators"+call, least, ok)
		hull, ok := impl.FreeHull(set)
		wantNoList(t, "FreeHull"+call, hull, ok)
		steps, ok := impl.HullSteps(set)
		wantNoList(t, "HullSteps"+call, steps, ok)
		can, ok := impl.CanMeet(set, "a")
		wantNoValue(t, "CanMeet"+call, can, ok)
		for _, n := range []int{0, 2, 8} {
			written, ok := impl.WrittenUpTo(set, n)
			wantNoList(t, "WrittenUpTo"+call, written, ok)
		}
	}
	for _, n := range []int{0, 3} {
		wantNoSetsRefused(t, "MeetGenerators", func(a, b []string) ([]string, bool) { return impl.MeetGenerators(a, b, n) })
	}
}

// rootOf tries all beginnings of a word.
func rootOf(s string) string {
	k := 1
	for strings.Repeat(s[:k], len(s)/k) != s {
		k++
	}
	return s[:k]
}

// turnsOf puts one letter after the other behind.
func turnsOf(s string) []string {
	var turns []string
	for range len(s) {
		turns = append(turns, s)
		s = s[1:] + s[:1]
	}
	return ordered(turns)
}

// rootedWords lists short words, not empty, and the powers.
func rootedWords() []string {
	words := append(wordsUpTo("ab", 9), wordsUpTo("abc", 6)...)
	for _, c := range powers {
		words = append(words, c.s)
	}
	return ordered(words)[1:]
}

// Promise 6: words have roots, of which they are powers, and as many turns as these have letters.
func TestWordsHaveRoots(t *testing.T) {
	for _, s := range rootedWords() {
		root, power, ok := impl.RootOf(s)
		wantValue(t, "RootOf("+s+")", root, ok, rootOf(s))
		wantValue(t, "power of RootOf("+s+")", power, ok, len(s)/len(rootOf(s)))
		is, ok := impl.IsPrimitive(s)
		wantValue(t, "IsPrimitive("+s+")", is, ok, s == rootOf(s))
		is, ok = impl.IsPrimitive(root)
		wantValue(t, "IsPrimitive("+root+")", is, ok, true)
		turns, ok := impl.TurnsOf(s)
		wantList(t, "TurnsOf("+s+")", turns, ok, turnsOf(s))
		wantValue(t, "number of TurnsOf("+s+")", len(turns), ok, len(root))
		periods, ok := impl.PeriodsOf(s)
		wantList(t, "PeriodsOf("+s+")", periods, ok, periodsOf(s))
	}
}

func TestRootOfAndIsPrimitive(t *testing.T) {
	for _, c := range powers {
		root, power, ok := impl.RootOf(c.s)
		wantValue(t, "RootOf("+c.s+")", root, ok, c.root)
		wantValue(t, "power of RootOf("+c.s+")", power, ok, c.power)
		is, ok := impl.IsPrimitive(c.s)
		wantValue(t, "IsPrimitive("+c.s+")", is, ok, c.power == 1)
	}
}

func TestTurnsOf(t *testing.T) {
	for s, want := range map[string]string{
		"a": "a", "aa": "aa", "ab": "ab ba", "ba": "ab ba", "abab": "abab baba", "aab": "aab aba baa", "abc": "abc bca cab", "cba": "acb bac cba", "abcabc": "abcabc bcabca cabcab", "aabb": "aabb abba baab bbaa",
		strings.Repeat("a", 60): strings.Repeat("a", 60), strings.Repeat("ba", 30): strings.Repeat("ab", 30) + " " + strings.Repeat("ba", 30),
	} {
		got, ok := impl.TurnsOf(s)
		wantList(t, "TurnsOf("+s+")", got, ok, list(want))
	}
	last := strings.Repeat("a", 59) + "b"
	got, ok := impl.TurnsOf(last)
	if !ok || len(got) != 60 || got[0] != last || got[59] != "b"+strings.Repeat("a", 59) {
		t.Errorf("TurnsOf(%s) = %q, %v", last, got, ok)
	}
}

func TestAreTurns(t *testing.T) {
	for _, c := range []struct {
		s, t string
		want bool
	}{
		{"a", "a", true}, {"a", "b", false}, {"a", "aa", false}, {"aa", "a", false}, {"ab", "ba", true}, {"abab", "baba", true}, {"abab", "aabb", false}, {"abab", "ab", false}, {"ab", "abab", false}, {"abc", "cab", true}, {"abc", "acb", false}, {"aab", "abb", false},
		{strings.Repeat("a", 60), strings.Repeat("a", 60), true}, {strings.Repeat("a", 60), strings.Repeat("a", 59), false}, {strings.Repeat("a", 59) + "b", "b" + strings.Repeat("a", 59), true}, {strings.Repeat("ab", 30), strings.Repeat("ba", 30), true},
	} {
		got, ok := impl.AreTurns(c.s, c.t)
		wantValue(t, "AreTurns("+c.s+", "+c.t+")", got, ok, c.want)
	}
	words := wordsUpTo("ab", 6)[1:]
	words = append(words, wordsUpTo("abc", 4)[1:]...)
	for _, s := range words {
		turns := turnsOf(s)
		for _, other := range words {
			got, ok := impl.AreTurns(s, other)
			wantValue(t, "AreTurns("+s+", "+other+")", got, ok, slices.Contains(turns, other))
		}
	}
}

func TestCommonRoot(t *testing.T) {
	a60, ab30 := strings.Repeat("a", 60), strings.Repeat("ab", 30)
	for _, c := range []struct{ s, t, want string }{
		{"a", "a", "a"}, {"ab", "ab", "ab"}, {"abab", "ab", "ab"}, {"ab", "abab", "ab"}, {"aa", "aaa", "a"}, {"aaaa", "aaaaaa", "a"}, {"abcabc", "abcabcabc", "abc"}, {"abaaba", "aba", "aba"},
		{a60, a60, "a"}, {a60, "a", "a"}, {"aaaaaaa", a60, "a"}, {ab30, ab30, "ab"}, {ab30, "ab", "ab"}, {a60[1:] + "b", a60[1:] + "b", a60[1:] + "b"},
	} {
		got, ok := impl.CommonRoot(c.s, c.t)
		wantValue(t, "CommonRoot("+c.s+", "+c.t+")", got, ok, c.want)
	}
	for _, c := range [][2]string{{"a", "b"}, {"ab", "ba"}, {"a", "ab"}, {"aba", "ab"}, {"abab", "ababa"}, {"abab", "baba"}, {a60, "b"}, {a60, a60[1:] + "b"}, {ab30, ab30[1:]}, {ab30, "ba"}} {
		got, ok := impl.CommonRoot(c[0], c[1])
		wantNoValue(t, "CommonRoot("+c[0]+", "+c[1]+")", got, ok)
	}
}

// Two words have a common root, or they are a code.
func TestWordsWithoutCommonRootAreCodes(t *testing.T) {
	words := append(wordsUpTo("ab", 6)[1:], "aaaaaaaa", "abababab", "abaababa", "c", "cc", "abc", "abcabc", "cab")
	for _, s := range words {
		for _, other := range words {
			got, ok := impl.CommonRoot(s, other)
			call := "CommonRoot(" + s + ", " + other + ")"
			if rootOf(s) == rootOf(other) {
				wantValue(t, call, got, ok, rootOf(s))
			} else {
				wantNoValue(t, call, got, ok)
			}
			if s != other {
				set, _ := impl.SetOf([]string{s, other})
				isCode, valid := impl.IsCode(set)
				wantValue(t, "IsCode("+textOf(set)+")", isCode, valid, !ok)
			}
		}
	}
}

// periodsOf compares letter by letter.
func periodsOf(s string) []int {
	var periods []int
	for p := 1; p <= len(s); p++ {
		isPeriod := true
		for i := p; i < len(s); i++ {
			isPeriod = isPeriod && s[i] == s[i-p]
		}
		if isPeriod {
			periods = append(periods, p)
		}
	}
	return periods
}

func TestPeriodsOf(t *testing.T) {
	all := make([]int, 60)
	for i := range all {
		all[i] = i + 1
	}
	for _, c := range []struct {
		s    string
		want []int
	}{
		{"", nil}, {"a", []int{1}}, {"aa", []int{1, 2}}, {"ab", []int{2}}, {"aba", []int{2, 3}}, {"abab", []int{2, 4}}, {"abaab", []int{3, 5}}, {"aabaabaa", []int{3, 6, 7, 8}}, {"abcabca", []int{3, 6, 7}},
		{strings.Repeat("a", 60), all}, {strings.Repeat("a", 59) + "b", []int{60}}, {"b" + strings.Repeat("a", 58) + "b", []int{59, 60}},
	} {
		got, ok := impl.PeriodsOf(c.s)
		wantList(t, "PeriodsOf("+c.s+")", got, ok, c.want)
	}
	for _, s := range noWordTexts {
		got, ok := impl.PeriodsOf(s)
		wantNoList(t, "PeriodsOf("+s+")", got, ok)
	}
}

func TestWordsWithoutRootsAreRefused(t *testing.T) {
	for _, s := range append(noWordTexts, "", strings.Repeat("ab", 31), strings.Repeat("c", 120)) {
		root, power, ok := impl.RootOf(s)
		wantNoValue(t, "RootOf("+s+")", root, ok)
		wantNoValue(t, "power of RootOf("+s+")", power, ok)
		is, ok := impl.IsPrimitive(s)
		wantNoValue(t, "IsPrimitive("+s+")", is, ok)
		turns, ok := impl.TurnsOf(s)
		wantNoList(t, "TurnsOf("+s+")", turns, ok)
		for _, pair := range [][2]string{{s, "a"}, {"a", s}, {s, s}, {strings.Repeat("a", 60), s}} {
			call := fmt.Sprintf("(%q, %q)", pair[0], pair[1])
			is, ok = impl.AreTurns(pair[0], pair[1])
			wantNoValue(t, "AreTurns"+call, is, ok)
			root, ok = impl.CommonRoot(pair[0], pair[1])
			wantNoValue(t, "CommonRoot"+call, root, ok)
		}
	}
}
