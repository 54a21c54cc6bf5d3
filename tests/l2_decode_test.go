package tests

import (
	"fmt"
	"math/rand"
	"slices"
	"strings"
	"testing"

	"loop.example/g01164/impl"
)

// smallSets lists all sets of at most four words of at most three letters a and b.
func smallSets() [][]string {
	return slices.DeleteFunc(subsets(wordsUpTo("ab", 3)[1:]), func(set []string) bool { return len(set) > 4 })
}

// mixedSets lists sets of words of all sizes, always the same ones.
func mixedSets(number int) [][]string {
	random := rand.New(rand.NewSource(2))
	var sets [][]string
	for len(sets) < number {
		letters, longest := 1+random.Intn(3), 1+random.Intn(8)
		words := make([]string, random.Intn(13))
		for i := range words {
			for range 1 + random.Intn(longest) {
				words[i] += string("abc"[random.Intn(letters)])
			}
		}
		if set, ok := impl.SetOf(words); ok {
			sets = append(sets, set)
		}
	}
	return sets
}

// longDouble returns a set whose shortest word with two readings has 62 letters, less those that are left out; at most two are.
// The word a takes the letters a in front of each of ten marks, none of which begins with another one.
func longDouble(without int) ([]string, string) {
	words := list("a aaaaaabb bbaaaabc bcaaaacb cbaaaacc ccaaabab babaabac bacaabaa baaaacab cabaacac cacaacaa caaaaaaa")
	words[2] = "bb" + "aaaa"[without:] + "bc"
	set, ok := impl.SetOf(words)
	if !ok {
		panic("no set")
	}
	return set, "aaaaaabb" + "aaaa"[without:] + "bcaaaacbaaaaccaaababaabacaabaaaacabaacacaacaaaaaaa"
}

// messagesByWord lists the messages of all words of at most n letters, in lexicographic order for each word.
func messagesByWord(set []string, n int) map[string][][]int {
	all := map[string][][]int{}
	var put func(string, []int)
	put = func(s string, message []int) {
		all[s] = append(all[s], slices.Clone(message))
		for i, word := range set {
			if len(s)+len(word) <= n {
				put(s+word, append(message, i))
			}
		}
	}
	put("", nil)
	return all
}

// restsBehind lists what can be left of a word behind a letter, if what is left in front of it is told: nothing, if a word begins with the letter.
func restsBehind(set []string, left string, letter string) []string {
	words := []string{left}
	if left == "" {
		words = set
	}
	var found []string
	for _, word := range words {
		if rest, begins := strings.CutPrefix(word, letter); begins {
			found = append(found, rest)
		}
	}
	return found
}

// firstDouble reads two messages letter by letter, and lists what is left of their words, until both end together.
func firstDouble(set []string) (string, bool) {
	type pair struct{ one, other string }
	reached := map[pair]string{}
	var level []pair
	reach := func(p pair, s string) {
		known, is := reached[p]
		if !is {
			level = append(level, p)
		}
		if !is || len(s) == len(known) && s < known {
			reached[p] = s
		}
	}
	step := func(left pair, s string) {
		for _, letter := range list("a b c") {
			for _, one := range restsBehind(set, left.one, letter) {
				for _, other := range restsBehind(set, left.other, letter) {
					reach(pair{one, other}, s+letter)
				}
			}
		}
	}
	for _, letter := range list("a b c") {
		for _, one := range restsBehind(set, "", letter) {
			for _, other := range restsBehind(set, "", letter) {
				if one != other {
					reach(pair{one, other}, letter)
				}
			}
		}
	}
	for len(level) > 0 {
		if s, is := reached[pair{}]; is {
			return s, true
		}
		now := level
		level = nil
		slices.SortStableFunc(now, func(p, q pair) int { return strings.Compare(reached[p], reached[q]) })
		for _, p := range now {
			step(p, reached[p])
		}
	}
	return "", false
}

// danglingOf makes the lists word for word as the document tells.
func danglingOf(set []string) [][]string {
	var first []string
	for _, s := range set {
		for _, word := range set {
			if s != word && strings.HasPrefix(s, word) {
				first = append(first, s[len(word):])
			}
		}
	}
	lists := [][]string{ordered(first)}
	for {
		last := lists[len(lists)-1]
		refused := slices.ContainsFunc(last, func(s string) bool { return slices.Contains(set, s) })
		again := slices.ContainsFunc(lists[:len(lists)-1], func(l []string) bool { return slices.Equal(l, last) })
		if len(last) == 0 || refused || again {
			return lists
		}
		var next []string
		for _, s := range last {
			for _, word := range set {
				if strings.HasPrefix(s, word) && s != word {
					next = append(next, s[len(word):])
				} else if strings.HasPrefix(word, s) && s != word {
					next = append(next, word[len(s):])
				}
			}
		}
		lists = append(lists, ordered(next))
	}
}

// ordered lists different words in their order.
func ordered(words []string) []string {
	slices.SortFunc(words, func(s, t string) int {
		if len(s) != len(t) {
			return len(s) - len(t)
		}
		return strings.Compare(s, t)
	})
	return slices.Compact(words)
}

func sameLists[T comparable](a, b [][]T) bool {
	return slices.EqualFunc(a, b, func(l, m []T) bool { return slices.Equal(l, m) })
}

func wantLists[T comparable](t *testing.T, call string, got [][]T, ok bool, want [][]T) {
	t.Helper()
	if !ok || !sameLists(got, want) {
		t.Errorf("%s = %v, %v; want %v, true", call, got, ok, want)
	}
}

func TestDanglingOf(t *testing.T) {
	for _, c := range []struct {
		set  string
		want [][]string
	}{
		{"", [][]string{nil}},
		{"a", [][]string{nil}},
		{"a ba bb", [][]string{nil}},
		{"a ab ba", [][]string{{"b"}, {"a"}}},
		{"a ab bb", [][]string{{"b"}, {"b"}}},
		{"a aa", [][]string{{"a"}}},
		{"a ab", [][]string{{"b"}, nil}},
		{"a abb", [][]string{{"bb"}, nil}},
		{"a bc abb", [][]string{{"bb"}, nil}},
		{"a ab bab", [][]string{{"b"}, {"ab"}}},
		{"a ab bbb", [][]string{{"b"}, {"bb"}, {"b"}}},
		{"a ac bc aab cba", [][]string{{"c", "ab"}, {"b", "ba"}, {"c"}, {"ba"}, nil}},
	} {
		got, ok := impl.DanglingOf(list(c.set))
		wantLists(t, "DanglingOf("+c.set+")", got, ok, c.want)
	}
	for _, set := range noSets {
		got, ok := impl.DanglingOf(set)
		wantNoList(t, "DanglingOf", got, ok)
	}
}

func TestDanglingListsMayBeMoreThanASet(t *testing.T) {
	set := list("a aa aaa aaaabb aaaabc aaaacb aaaacc aaabab")
	got, ok := impl.DanglingOf(set)
	wantLists(t, "DanglingOf", got, ok, danglingOf(set))
	if len(got) != 1 || len(got[0]) != 17 {
		t.Errorf("DanglingOf = %q; want one list of 17 words", got)
	}
	set = list("b abbc ccaac cbcbbb aabccac bbbbbcbb cabbbbaa cbbbbbca ccacbbba")
	got, ok = impl.DanglingOf(set)
	wantLists(t, "DanglingOf", got, ok, danglingOf(set))
	if len(got) != 369 {
		t.Errorf("DanglingOf has %d lists; want 369", len(got))
	}
}

func TestDanglingListsRefuseCodes(t *testing.T) {
	for _, set := range append(smallSets(), mixedSets(3000)...) {
		lists, ok := impl.DanglingOf(set)
		wantLists(t, fmt.Sprintf("DanglingOf(%q)", set), lists, ok, danglingOf(set))
		refused := slices.ContainsFunc(lists[len(lists)-1], func(s string) bool { return slices.Contains(set, s) })
		is, ok := impl.IsCode(set)
		wantValue(t, fmt.Sprintf("IsCode(%q)", set), is, ok, !refused)
	}
}

func TestIsCode(t *testing.T) {
	for set, want := range map[string]bool{
		"": true, "a": true, "a b c": true, "a ab bb": true, "a ba bb": true, "aa ab ba bb": true, "ab abba": true, "a ab cb": true,
		"a ab ba": false, "a aa": false, "aa aaa": false, "a b ab": false, "ab aba bab": false, "abcabcab abc ab": false,
	} {
		words, _ := impl.SetOf(list(set))
		got, ok := impl.IsCode(words)
		wantValue(t, "IsCode("+set+")", got, ok, want)
	}
	for _, set := range noSets {
		got, ok := impl.IsCode(set)
		wantNoValue(t, "IsCode", got, ok)
	}
}

// Promise 2: a set is a code, or a shortest word with two readings refuses it.
func TestSetsAreCodesOrRefused(t *testing.T) {
	for _, set := range append(smallSets(), mixedSets(3000)...) {
		want, isDouble := firstDouble(set)
		is, ok := impl.IsCode(set)
		wantValue(t, fmt.Sprintf("IsCode(%q)", set), is, ok, !isDouble)
		got, ok := impl.ShortestDouble(set)
		if !isDouble || len(want) > 60 {
			wantNoValue(t, fmt.Sprintf("ShortestDouble(%q)", set), got, ok)
			continue
		}
		wantValue(t, fmt.Sprintf("ShortestDouble(%q)", set), got, ok, want)
		checkTwoReadings(t, set, got)
	}
}

func checkTwoReadings(t *testing.T, set []string, double string) {
	t.Helper()
	one, other, ok := impl.TwoReadings(set)
	if !ok || slices.Compare(one, other) >= 0 {
		t.Fatalf("TwoReadings(%q) = %v, %v, %v", set, one, other, ok)
	}
	for _, message := range [][]int{one, other} {
		s, ok := impl.WriteMessage(set, message)
		wantValue(t, fmt.Sprintf("WriteMessage(%q, %v)", set, message), s, ok, double)
	}
	if len(double) <= 12 {
		all := messagesByWord(set, len(double))[double]
		wantLists(t, fmt.Sprintf("TwoReadings(%q)", set), [][]int{one, other}, ok, all[:2])
	}
}

func TestShortestDouble(t *testing.T) {
	for _, c := range []struct {
		set, want  string
		one, other []int
	}{
		{"a ab ba", "aba", []int{0, 2}, []int{1, 0}},
		{"a b ab", "ab", []int{0, 1}, []int{2}},
		{"a aa", "aa", []int{0, 0}, []int{1}},
		{"aa aaa", "aaaaa", []int{0, 1}, []int{1, 0}},
		{"a b aa bb", "aa", []int{0, 0}, []int{2}},
		{"b c bb cc", "bb", []int{0, 0}, []int{2}},
		{"a aa aaa", "aa", []int{0, 0}, []int{1}},
		{"c ba aab baa ccc", "ccc", []int{0, 0, 0}, []int{4}},
		{"ab aba bab", "ababab", []int{0, 0, 0}, []int{1, 2}},
		{"a ac bb cb cc aca acc bcb", "aca", []int{1, 0}, []int{5}},
		{"ac bb acac acbb bbac", "acac", []int{0, 0}, []int{2}},
	} {
		got, ok := impl.ShortestDouble(list(c.set))
		wantValue(t, "ShortestDouble("+c.set+")", got, ok, c.want)
		one, other, ok := impl.TwoReadings(list(c.set))
		wantLists(t, "TwoReadings("+c.set+")", [][]int{one, other}, ok, [][]int{c.one, c.other})
	}
}

func TestNoShortestDouble(t *testing.T) {
	for _, set := range append(noSets, nil, list("a"), list("a ab bb"), list("aa ab ba bb")) {
		got, ok := impl.ShortestDouble(set)
		wantNoValue(t, "ShortestDouble", got, ok)
		one, other, ok := impl.TwoReadings(set)
		wantNoList(t, "TwoReadings", one, ok)
		wantNoList(t, "TwoReadings", other, ok)
	}
}

func TestShortestDoubleOfMaxWord(t *testing.T) {
	set, double := longDouble(2)
	if len(double) != impl.MaxWord {
		t.Fatalf("%q has %d letters", double, len(double))
	}
	got, ok := impl.ShortestDouble(set)
	wantValue(t, "ShortestDouble", got, ok, double)
	checkTwoReadings(t, set, double)
	for without := range 2 {
		set, double = longDouble(without)
		if want, isDouble := firstDouble(set); !isDouble || want != double || len(double) != 62-without {
			t.Fatalf("%q is no first word with two readings", double)
		}
		is, ok := impl.IsCode(set)
		wantValue(t, "IsCode", is, ok, false)
		got, ok = impl.ShortestDouble(set)
		wantNoValue(t, "ShortestDouble", got, ok)
		one, other, ok := impl.TwoReadings(set)
		wantNoList(t, "TwoReadings", one, ok)
		wantNoList(t, "TwoReadings", other, ok)
	}
}

func TestReadings(t *testing.T) {
	for _, set := range append(smallSets(), mixedSets(200)...) {
		all := messagesByWord(set, 7)
		for _, s := range wordsUpTo("ab", 7) {
			checkReadings(t, set, s, all[s])
		}
		for s, messages := range all {
			checkReadings(t, set, s, messages)
		}
	}
}

func checkReadings(t *testing.T, set []string, s string, want [][]int) {
	t.Helper()
	call := fmt.Sprintf("(%q, %q)", set, s)
	number, ok := impl.CountReadings(set, s)
	wantValue(t, "CountReadings"+call, number, ok, len(want))
	can, ok := impl.CanRead(set, s)
	wantValue(t, "CanRead"+call, can, ok, len(want) > 0)
	only, ok := impl.IsUniquelyRead(set, s)
	wantValue(t, "IsUniquelyRead"+call, only, ok, len(want) == 1)
	all, ok := impl.AllReadings(set, s)
	if len(want) > impl.MaxReadings {
		wantNoList(t, "AllReadings"+call, all, ok)
	} else {
		wantLists(t, "AllReadings"+call, all, ok, want)
	}
	first, ok := impl.ReadWord(set, s)
	if len(want) == 0 {
		wantNoList(t, "ReadWord"+call, first, ok)
	} else {
		wantList(t, "ReadWord"+call, first, ok, want[0])
	}
}

func TestReadingsOfTheDocument(t *testing.T) {
	checkReadings(t, list("a ab ba"), "aba", [][]int{{0, 2}, {1, 0}})
	checkReadings(t, list("a ab ba"), "", [][]int{nil})
	checkReadings(t, nil, "", [][]int{nil})
	checkReadings(t, nil, "a", nil)
	checkReadings(t, list("a ab ba"), "b", nil)
	checkReadings(t, list("a ab ba"), "abc", nil)
	checkReadings(t, list("a ab ba"), "aab", [][]int{{0, 1}})
	checkReadings(t, list("aa aaa"), "a", nil)
	checkReadings(t, list("c"), strings.Repeat("c", 60), [][]int{make([]int, 60)})
}

func TestAllReadingsUpToTheLimit(t *testing.T) {
	for _, c := range []struct{ set, s string }{{"a b aa bb", "aaaabbaaaabb"}, {"aa aaa aaaaa aaaaaaa", strings.Repeat("a", 15)}} {
		number, ok := impl.CountReadings(list(c.set), c.s)
		wantValue(t, "CountReadings", number, ok, impl.MaxReadings)
		all, ok := impl.AllReadings(list(c.set), c.s)
		wantLists(t, "AllReadings", all, ok, messagesByWord(list(c.set), len(c.s))[c.s])
	}
	set, s := list("aaa aaaaa"), strings.Repeat("a", 34)
	number, ok := impl.CountReadings(set, s)
	wantValue(t, "CountReadings", number, ok, impl.MaxReadings+1)
	all, ok := impl.AllReadings(set, s)
	wantNoList(t, "AllReadings", all, ok)
	first, ok := impl.ReadWord(set, s)
	wantList(t, "ReadWord", first, ok, []int{0, 0, 0, 0, 0, 0, 0, 0, 1, 1})
}

func TestReadingsOfMaxWord(t *testing.T) {
	set := list("a aa aaa aaaa aaaaa aaaaaa aaaaaaa aaaaaaaa")
	want := make([]int, 61)
	want[0] = 1
	for n := range want {
		for _, before := range want[max(0, n-8):n] {
			want[n] += before
		}
		number, ok := impl.CountReadings(set, strings.Repeat("a", n))
		wantValue(t, "CountReadings", number, ok, want[n])
	}
	long := strings.Repeat("a", 60)
	first, ok := impl.ReadWord(set, long)
	wantList(t, "ReadWord", first, ok, make([]int, 60))
	all, ok := impl.AllReadings(set, long)
	wantNoList(t, "AllReadings", all, ok)
	// A word that can be read nearly to its end in very many ways.
	number, ok := impl.CountReadings(set, long[1:]+"b")
	wantValue(t, "CountReadings", number, ok, 0)
	all, ok = impl.AllReadings(set, long[1:]+"b")
	wantLists(t, "AllReadings", all, ok, nil)
}

func TestReadingsRefuseInvalidArguments(t *testing.T) {
	check := func(set []string, s string) {
		t.Helper()
		number, ok := impl.CountReadings(set, s)
		wantNoValue(t, "CountReadings", number, ok)
		can, ok := impl.CanRead(set, s)
		wantNoValue(t, "CanRead", can, ok)
		only, ok := impl.IsUniquelyRead(set, s)
		wantNoValue(t, "IsUniquelyRead", only, ok)
		first, ok := impl.ReadWord(set, s)
		wantNoList(t, "ReadWord", first, ok)
		all, ok := impl.AllReadings(set, s)
		wantNoList(t, "AllReadings", all, ok)
	}
	for _, set := range noSets {
		check(set, "a")
		check(set, "")
	}
	for _, s := range noWordTexts {
		check(list("a b"), s)
		check(nil, s)
	}
}

func TestWriteMessage(t *testing.T) {
	for _, c := range []struct {
		set     string
		message []int
		want    string
	}{
		{"a ab ba", []int{0, 2}, "aba"}, {"a ab ba", []int{1, 0}, "aba"}, {"a ab ba", nil, ""}, {"", nil, ""},
		{"a", make([]int, 60), strings.Repeat("a", 60)}, {"ab", make([]int, 30), strings.Repeat("ab", 30)},
		{"a bcbcbcb", []int{1, 1, 1, 1, 1, 1, 1, 1, 0, 0, 0, 0}, strings.Repeat("bcbcbcb", 8) + "aaaa"},
	} {
		got, ok := impl.WriteMessage(list(c.set), c.message)
		wantValue(t, fmt.Sprintf("WriteMessage(%s, %v)", c.set, c.message), got, ok, c.want)
	}
	for _, c := range []struct {
		set     string
		message []int
	}{
		{"a", make([]int, 61)}, {"ab", make([]int, 31)}, {"ab", make([]int, 1000)}, {"", []int{0}}, {"a ab ba", []int{3}}, {"a ab ba", []int{0, -1}},
		{"a ab ba", []int{1<<63 - 1}}, {"a ab ba", []int{-1 << 63, 0}}, {"a bcbcbcb", []int{1, 1, 1, 1, 1, 1, 1, 1, 0, 0, 0, 0, 0}},
	} {
		got, ok := impl.WriteMessage(list(c.set), c.message)
		wantNoValue(t, fmt.Sprintf("WriteMessage(%s, %v)", c.set, c.message), got, ok)
	}
	for _, set := range noSets {
		got, ok := impl.WriteMessage(set, nil)
		wantNoValue(t, "WriteMessage", got, ok)
		got, ok = impl.WriteMessage(set, []int{0})
		wantNoValue(t, "WriteMessage", got, ok)
	}
}

func TestCountWrittenAndMessages(t *testing.T) {
	for _, set := range append(smallSets(), mixedSets(200)...) {
		written, messages := make([]int, 9), make([]int, 9)
		for s, all := range messagesByWord(set, 8) {
			written[len(s)]++
			messages[len(s)] += len(all)
		}
		for n := range 9 {
			got, ok := impl.CountWritten(set, n)
			wantValue(t, fmt.Sprintf("CountWritten(%q, %d)", set, n), got, ok, written[n])
			got, ok = impl.CountMessages(set, n)
			wantValue(t, fmt.Sprintf("CountMessages(%q, %d)", set, n), got, ok, messages[n])
		}
	}
}

// The numbers are as many for a code, and not for a set with a word of n letters that has two readings.
func TestCodesHaveAsManyMessagesAsWords(t *testing.T) {
	for _, set := range mixedSets(500) {
		double, isDouble := impl.ShortestDouble(set)
		for n := range 10 {
			written, _ := impl.CountWritten(set, n)
			messages, _ := impl.CountMessages(set, n)
			if same := !isDouble || n < len(double); same != (written == messages) && n <= max(len(double), 1) {
				t.Errorf("%q, %d: %d words and %d messages", set, n, written, messages)
			}
		}
	}
}

func TestCountWritten(t *testing.T) {
	for _, c := range []struct {
		set     string
		n, want int
	}{
		{"", 0, 1}, {"", 1, 0}, {"", 9, 0}, {"a", 9, 1}, {"aa", 9, 0}, {"a b c", 9, 19683}, {"a b c aa ab ac ba bb bc ca cb cc", 9, 19683},
		{"a ab ba", 3, 4}, {"a ab", 9, 55}, {"a aa aaa", 9, 1}, {"aaaaaaaa", 8, 1}, {"aaaaaaaa", 9, 0},
	} {
		got, ok := impl.CountWritten(list(c.set), c.n)
		wantValue(t, fmt.Sprintf("CountWritten(%s, %d)", c.set, c.n), got, ok, c.want)
	}
	for _, n := range []int{-1, 10, 12, -1 << 63, 1<<63 - 1} {
		got, ok := impl.CountWritten(list("a ab"), n)
		wantNoValue(t, "CountWritten", got, ok)
	}
	for _, set := range noSets {
		got, ok := impl.CountWritten(set, 2)
		wantNoValue(t, "CountWritten", got, ok)
	}
}

func TestCountMessages(t *testing.T) {
	most := []int{1, 3}
	for n := 2; n <= 20; n++ {
		most = append(most, 3*most[n-1]+9*most[n-2])
	}
	for _, c := range []struct {
		set     string
		n, want int
	}{
		{"", 0, 1}, {"", 1, 0}, {"", 20, 0}, {"a", 20, 1}, {"a aa", 20, 10946}, {"a ab ba", 3, 5}, {"a b c", 20, 3486784401},
		{"a b c aa ab ac ba bb bc ca cb cc", 20, most[20]}, {"aaaaaaaa", 16, 1}, {"aaaaaaaa", 20, 0},
	} {
		got, ok := impl.CountMessages(list(c.set), c.n)
		wantValue(t, fmt.Sprintf("CountMessages(%s, %d)", c.set, c.n), got, ok, c.want)
	}
	for _, n := range []int{-1, 21, -1 << 63, 1<<63 - 1} {
		got, ok := impl.CountMessages(list("a ab"), n)
		wantNoValue(t, "CountMessages", got, ok)
	}
	for _, set := range noSets {
		got, ok := impl.CountMessages(set, 2)
		wantNoValue(t, "CountMessages", got, ok)
	}
}

func TestGreatestCodeAndFirstRefused(t *testing.T) {
	for _, set := range append(smallSets(), mixedSets(1000)...) {
		var want []string
		refused := -1
		for i, s := range set {
			longer := append(slices.Clone(want), s)
			if _, isDouble := firstDouble(longer); !isDouble {
				want = longer
			} else if refused < 0 {
				refused = i
			}
		}
		got, ok := impl.GreatestCode(set)
		wantList(t, fmt.Sprintf("GreatestCode(%q)", set), got, ok, want)
		first, ok := impl.FirstRefused(set)
		if refused < 0 {
			wantNoValue(t, fmt.Sprintf("FirstRefused(%q)", set), first, ok)
		} else {
			wantValue(t, fmt.Sprintf("FirstRefused(%q)", set), first, ok, refused)
		}
	}
}

func TestGreatestCode(t *testing.T) {
	for _, c := range []struct {
		set, code string
		refused   int
	}{
		{"a ab ba", "a ab", 2}, {"a aa", "a", 1}, {"a b ab ba", "a b", 2}, {"aa ab aaa aba bbb", "aa ab aba bbb", 2}, {"a ab abb bbb abbb", "a ab abb bbb", 4},
	} {
		got, ok := impl.GreatestCode(list(c.set))
		wantList(t, "GreatestCode("+c.set+")", got, ok, list(c.code))
		first, ok := impl.FirstRefused(list(c.set))
		wantValue(t, "FirstRefused("+c.set+")", first, ok, c.refused)
	}
	for _, set := range [][]string{nil, list("a"), list("a ab bb")} {
		got, ok := impl.GreatestCode(set)
		wantList(t, "GreatestCode", got, ok, set)
		first, ok := impl.FirstRefused(set)
		wantNoValue(t, "FirstRefused", first, ok)
	}
	for _, set := range noSets {
		got, ok := impl.GreatestCode(set)
		wantNoList(t, "GreatestCode", got, ok)
		first, ok := impl.FirstRefused(set)
		wantNoValue(t, "FirstRefused", first, ok)
	}
}
