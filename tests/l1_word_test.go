package tests

import (
	"slices"
	"strings"
	"testing"

	"loop.example/g01164/impl"
)

// Texts that are no words, and lists that are no sets, whatever a function does with them.
var (
	noWordTexts = []string{"d", "A", "a b", "ab,", "-", "a\n", "a\x00", "\xff", "ä", "`", strings.Repeat("a", 61)}
	noSets      = [][]string{
		{""}, {"", "a"}, {"d"}, {"a", "a"}, {"b", "a"}, {"ab", "a"}, {"a", "ba", "ab"},
		{"aaaaaaaaa"}, {"a", "b c"}, {"-"}, {"a,b"}, thirteen(),
	}
)

// thirteen lists words that are in order and too many for a set by one.
func thirteen() []string {
	return wordsUpTo("abc", 3)[1:14]
}

func twelve() []string {
	return thirteen()[:12]
}

func TestIsWord(t *testing.T) {
	for _, s := range []string{"", "a", "b", "c", "abcabc", strings.Repeat("c", 60)} {
		if !impl.IsWord(s) {
			t.Errorf("IsWord(%q) = false", s)
		}
	}
	for _, s := range noWordTexts {
		if impl.IsWord(s) {
			t.Errorf("IsWord(%q) = true", s)
		}
	}
}

func TestIsSet(t *testing.T) {
	for _, set := range [][]string{nil, {}, list("a"), list("a b ab"), list("c aa ab ba aaa"), list("abcabcab"), twelve()} {
		if !impl.IsSet(set) {
			t.Errorf("IsSet(%q) = false", set)
		}
	}
	for _, set := range noSets {
		if impl.IsSet(set) {
			t.Errorf("IsSet(%q) = true", set)
		}
	}
}

func TestSetOf(t *testing.T) {
	for _, c := range []struct{ words, want []string }{
		{nil, nil},
		{list("ab a b a"), list("a b ab")},
		{list("c ba ab c aaa b ab"), list("b c ab ba aaa")},
		{slices.Repeat(list("b a"), 20), list("a b")},
		{append(twelve(), twelve()...), twelve()},
	} {
		got, ok := impl.SetOf(c.words)
		wantList(t, "SetOf", got, ok, c.want)
	}
	for _, words := range [][]string{slices.Repeat(list("a"), 41), thirteen(), {""}, {"a", ""}, {"aaaaaaaaa"}, {"a", "d"}} {
		got, ok := impl.SetOf(words)
		wantNoList(t, "SetOf", got, ok)
	}
}

func TestSetTextsAreReadBack(t *testing.T) {
	texts := map[string][]string{}
	for _, set := range subsets(wordsUpTo("ab", 2)[1:]) {
		text, ok := impl.SetText(set)
		if !ok {
			t.Fatalf("SetText(%q) fails", set)
		}
		texts[text] = set
		got, ok := impl.ParseSet(text)
		wantList(t, "ParseSet("+text+")", got, ok, set)
	}
	if len(texts) != 64 {
		t.Errorf("64 sets have %d texts", len(texts))
	}
	for _, text := range wordsUpTo("ab,-", 6) {
		set, isText := texts[text]
		got, ok := impl.ParseSet(text)
		if isText {
			wantList(t, "ParseSet("+text+")", got, ok, set)
		} else if ok && !impl.IsSet(got) || !ok && len(got) != 0 {
			t.Errorf("ParseSet(%q) = %q, %v", text, got, ok)
		} else if back, _ := impl.SetText(got); ok && back != text {
			t.Errorf("ParseSet(%q) has the text %q", text, back)
		}
	}
}

func TestSetText(t *testing.T) {
	for text, set := range map[string][]string{"-": nil, "a": list("a"), "a,b,ab": list("a b ab"), strings.Join(twelve(), ","): twelve(), "abcabcab": list("abcabcab")} {
		got, ok := impl.SetText(set)
		wantValue(t, "SetText", got, ok, text)
		back, ok := impl.ParseSet(text)
		wantList(t, "ParseSet("+text+")", back, ok, set)
	}
	for _, set := range noSets {
		got, ok := impl.SetText(set)
		wantNoValue(t, "SetText", got, ok)
	}
}

func TestParseSetRefuses(t *testing.T) {
	for _, text := range []string{
		"", ",", "a,", ",a", "a,,b", "b,a", "a,a", "ab,a", "a, b", " a", "a\n", "d", "A", "--", "-,a", "a,-",
		"aaaaaaaaa", strings.Join(thirteen(), ","), strings.Repeat("a,", 100000), strings.Repeat("a", 100000),
	} {
		got, ok := impl.ParseSet(text)
		wantNoList(t, "ParseSet("+text[:min(20, len(text))]+")", got, ok)
	}
}

func TestBeginsAndEnds(t *testing.T) {
	long := strings.Repeat("a", 60)
	for _, c := range []struct {
		s, t         string
		begins, ends bool
	}{
		{"", "", true, true}, {"ab", "", true, true}, {"", "a", false, false},
		{"ab", "a", true, false}, {"ab", "b", false, true}, {"ab", "ab", true, true},
		{"ab", "abc", false, false}, {"bab", "ab", false, true}, {long, long, true, true},
	} {
		got, ok := impl.Begins(c.s, c.t)
		wantValue(t, "Begins("+c.s+","+c.t+")", got, ok, c.begins)
		got, ok = impl.Ends(c.s, c.t)
		wantValue(t, "Ends("+c.s+","+c.t+")", got, ok, c.ends)
	}
	for _, s := range noWordTexts {
		for _, pair := range [][2]string{{s, s}, {s, "a"}, {s, ""}, {"a", s}} {
			got, ok := impl.Begins(pair[0], pair[1])
			wantNoValue(t, "Begins", got, ok)
			got, ok = impl.Ends(pair[0], pair[1])
			wantNoValue(t, "Ends", got, ok)
		}
	}
}

func TestCountIn(t *testing.T) {
	long := strings.Repeat("a", 60)
	for _, c := range []struct {
		s, t string
		want int
	}{
		{"abaab", "ab", 2}, {"aaaa", "aa", 3}, {"ababa", "aba", 2}, {"", "a", 0}, {"a", "ab", 0},
		{"a", "a", 1}, {"abc", "c", 1}, {"abc", "ac", 0}, {long, "a", 60}, {long, long, 1},
	} {
		got, ok := impl.CountIn(c.s, c.t)
		wantValue(t, "CountIn("+c.s+","+c.t+")", got, ok, c.want)
	}
	for _, pair := range [][2]string{{"a", ""}, {"", ""}, {"ad", "a"}, {"a", "d"}, {long + "a", "a"}, {"a", long + "a"}} {
		got, ok := impl.CountIn(pair[0], pair[1])
		wantNoValue(t, "CountIn", got, ok)
	}
}

func TestLettersOf(t *testing.T) {
	for s, want := range map[string][]int{"": {0, 0, 0}, "a": {1, 0, 0}, "cabbc": {1, 2, 2}, strings.Repeat("c", 60): {0, 0, 60}} {
		got, ok := impl.LettersOf(s)
		wantList(t, "LettersOf("+s+")", got, ok, want)
	}
	for _, s := range noWordTexts {
		got, ok := impl.LettersOf(s)
		wantNoList(t, "LettersOf", got, ok)
	}
}

func TestLessWord(t *testing.T) {
	words := wordsUpTo("abc", 3)
	for i, s := range words {
		for j, u := range words {
			got, ok := impl.LessWord(s, u)
			wantValue(t, "LessWord("+s+","+u+")", got, ok, i < j)
		}
	}
	for _, s := range noWordTexts {
		got, ok := impl.LessWord(s, "ab")
		wantNoValue(t, "LessWord", got, ok)
		got, ok = impl.LessWord("", s)
		wantNoValue(t, "LessWord", got, ok)
	}
}

func TestConcat(t *testing.T) {
	half := strings.Repeat("ab", 15)
	for _, c := range []struct {
		words []string
		want  string
	}{
		{nil, ""}, {[]string{""}, ""}, {[]string{"ab", "", "c", "a"}, "abca"}, {[]string{half, half}, half + half},
		{slices.Repeat(list("c"), 60), strings.Repeat("c", 60)}, {make([]string, 60), ""},
	} {
		got, ok := impl.Concat(c.words)
		wantValue(t, "Concat", got, ok, c.want)
	}
	for _, words := range [][]string{{half, half, "a"}, slices.Repeat(list("a"), 61), make([]string, 61), {"a", "d"}, {"a", "-"}, {strings.Repeat("a", 61)}} {
		got, ok := impl.Concat(words)
		wantNoValue(t, "Concat", got, ok)
	}
}

func TestReverseSet(t *testing.T) {
	for _, c := range [][2]string{{"", ""}, {"a b ab", "a b ba"}, {"ab bac cab abcc", "ba bac cab ccba"}, {"aab aba", "aba baa"}, {"aac abb", "bba caa"}} {
		got, ok := impl.ReverseSet(list(c[0]))
		wantList(t, "ReverseSet("+c[0]+")", got, ok, list(c[1]))
	}
	for _, set := range noSets {
		got, ok := impl.ReverseSet(set)
		wantNoList(t, "ReverseSet", got, ok)
	}
}

func TestRenameSet(t *testing.T) {
	for _, c := range []struct {
		set   string
		names []int
		want  string
	}{
		{"", []int{2, 1, 0}, ""}, {"a b ab", []int{0, 1, 2}, "a b ab"}, {"a ab", []int{1, 0, 2}, "b ba"},
		{"a ab bc", []int{1, 2, 0}, "b bc ca"}, {"ab ca", []int{2, 0, 1}, "bc ca"}, {"a b c", []int{2, 1, 0}, "a b c"},
	} {
		got, ok := impl.RenameSet(list(c.set), c.names)
		wantList(t, "RenameSet("+c.set+")", got, ok, list(c.want))
	}
	for _, names := range [][]int{nil, {0, 1}, {0, 1, 2, 2}, {0, 1, 2, 3}, {0, 1, 1}, {1, 2, 3}, {-1, 0, 1}, {0, 1, 1 << 62}} {
		got, ok := impl.RenameSet(list("a ab"), names)
		wantNoList(t, "RenameSet", got, ok)
	}
	for _, set := range noSets {
		got, ok := impl.RenameSet(set, []int{0, 1, 2})
		wantNoList(t, "RenameSet", got, ok)
	}
}

func TestJoinSets(t *testing.T) {
	for _, c := range []struct{ a, b, want []string }{
		{nil, nil, nil}, {list("a ab"), nil, list("a ab")}, {nil, list("b"), list("b")},
		{list("a ab"), list("b ab ba"), list("a b ab ba")}, {twelve(), twelve(), twelve()},
		{twelve()[6:], twelve()[:6], twelve()}, {twelve()[:8], twelve()[3:], twelve()},
	} {
		got, ok := impl.JoinSets(c.a, c.b)
		wantList(t, "JoinSets", got, ok, c.want)
	}
	got, ok := impl.JoinSets(thirteen()[:6], thirteen()[6:])
	wantNoList(t, "JoinSets", got, ok)
	for _, set := range noSets {
		got, ok = impl.JoinSets(set, list("a"))
		wantNoList(t, "JoinSets", got, ok)
		got, ok = impl.JoinSets(nil, set)
		wantNoList(t, "JoinSets", got, ok)
	}
}

func TestWithoutWord(t *testing.T) {
	for i, want := range []string{"b ab", "a ab", "a b"} {
		got, ok := impl.WithoutWord(list("a b ab"), i)
		wantList(t, "WithoutWord", got, ok, list(want))
	}
	got, ok := impl.WithoutWord(list("a"), 0)
	wantList(t, "WithoutWord", got, ok, nil)
	got, ok = impl.WithoutWord(twelve(), 11)
	wantList(t, "WithoutWord", got, ok, twelve()[:11])
	for _, i := range []int{-1, 3, -1 << 63, 1<<63 - 1} {
		got, ok = impl.WithoutWord(list("a b ab"), i)
		wantNoList(t, "WithoutWord", got, ok)
	}
	got, ok = impl.WithoutWord(nil, 0)
	wantNoList(t, "WithoutWord", got, ok)
	for _, set := range noSets {
		got, ok = impl.WithoutWord(set, 0)
		wantNoList(t, "WithoutWord", got, ok)
	}
}

func TestLeftQuotient(t *testing.T) {
	for _, c := range [][3]string{
		{"a b ab", "a b ab", "b"}, {"", "a b", ""}, {"a b", "", ""}, {"a", "b ba", ""}, {"ab", "a", ""},
		{"a aa", "aaa aba baa", "a aa ba"}, {"a b", "ac bc aba", "c ba"}, {"a ab", "abc acb", "c bc cb"},
	} {
		got, ok := impl.LeftQuotient(list(c[0]), list(c[1]))
		wantList(t, "LeftQuotient("+c[0]+" by "+c[1]+")", got, ok, list(c[2]))
	}
	for _, set := range noSets {
		got, ok := impl.LeftQuotient(set, list("ab"))
		wantNoList(t, "LeftQuotient", got, ok)
		got, ok = impl.LeftQuotient(list("a"), set)
		wantNoList(t, "LeftQuotient", got, ok)
	}
}

func TestLeftQuotientMayHaveMoreWordsThanASet(t *testing.T) {
	got, ok := impl.LeftQuotient(list("a aa aaa"), list("aaaabb aaaabc aaaacb aaaacc aaabab"))
	want := list("abb abc acb acc bab aabb aabc aacb aacc abab aaabb aaabc aaacb aaacc aabab")
	wantList(t, "LeftQuotient", got, ok, want)
}

func TestLengthsOf(t *testing.T) {
	for _, c := range []struct {
		set  string
		want []int
	}{{"", nil}, {"a b ab", []int{1, 1, 2}}, {"ab abcabcab", []int{2, 8}}} {
		got, ok := impl.LengthsOf(list(c.set))
		wantList(t, "LengthsOf("+c.set+")", got, ok, c.want)
	}
	for _, set := range noSets {
		got, ok := impl.LengthsOf(set)
		wantNoList(t, "LengthsOf", got, ok)
	}
}

func TestBordersAreBeginningsThatAreEnds(t *testing.T) {
	for _, s := range wordsUpTo("abc", 7) {
		var want []int
		for k := 1; k < len(s); k++ {
			begins, _ := impl.Begins(s, s[:k])
			ends, _ := impl.Ends(s, s[:k])
			if begins && ends {
				want = append(want, k)
			}
		}
		got, ok := impl.BordersOf(s)
		wantList(t, "BordersOf("+s+")", got, ok, want)
	}
}

func TestBordersOf(t *testing.T) {
	for s, want := range map[string][]int{"": nil, "a": nil, "aa": {1}, "ab": nil, "abaab": {2}, "aaaa": {1, 2, 3}, "abacaba": {1, 3}} {
		got, ok := impl.BordersOf(s)
		wantList(t, "BordersOf("+s+")", got, ok, want)
	}
	long, ok := impl.BordersOf(strings.Repeat("ab", 30))
	if !ok || len(long) != 29 || long[0] != 2 || long[28] != 58 {
		t.Errorf("BordersOf of 60 letters = %v, %v", long, ok)
	}
	for _, s := range noWordTexts {
		got, ok := impl.BordersOf(s)
		wantNoList(t, "BordersOf", got, ok)
	}
}
