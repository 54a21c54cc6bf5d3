package tests

import (
	"fmt"
	"math"
	"math/rand"
	"slices"
	"strings"
	"testing"

	"loop.example/g01164/impl"
)

// Sets with a delay of MaxDelay, of one more, and of more.
const (
	slowTwenty      = "b cbba babbcbb abbbbbac bbabbbcb bbbbbbbc"
	slowTwentyOne   = "a bac bbcc acaaaba aaaaaaab caaaaabb ccaaabaa"
	slowTwentySeven = "c cbb abba aabbb acaac aacbaabc bacbbaba baccccca bbaccccb bbbcccac bcccccaa ccccccab"
)

// A set whose longer word ab waits for a, as the first side, when a no longer waits for ab.
const turnedRound = "a ab bacc"

// A set behind whose beginning baa twelve words are missing: six behind aa, and the same ones with an a in front of them behind a.
const missingTwelve = "b ba aaba aabb aabca aabcb aacab aacba"

var noDelays = []int{-1 << 63, -21, -20, -1, 21, 22, 60, 1<<63 - 1}

// delaySets lists small sets and mixed ones, prefix sets among them, and slow ones, also backwards.
func delaySets(number int) [][]string {
	sets := append(smallSets(), mixedSets(number)...)
	for i, set := range prefixSets() {
		if i%50 == 0 {
			sets = append(sets, set)
		}
	}
	for _, words := range []string{slowTwenty, slowTwentyOne, slowTwentySeven, turnedRound, missingTwelve, strings.Join(twelve(), " "), "a aa aaa aaaa aaaaa aaaaaa aaaaaaa aaaaaaaa"} {
		sets = append(sets, list(words), backwards(list(words)))
	}
	return sets
}

func backwards(set []string) []string {
	var back []string
	for _, s := range set {
		letters := []byte(s)
		slices.Reverse(letters)
		back = append(back, string(letters))
	}
	return ordered(back)
}

func written(set []string, message []int) string {
	var text strings.Builder
	for _, i := range message {
		text.WriteString(set[i])
	}
	return text.String()
}

// messagesOver lists, in lexicographic order, the messages of which a text is a beginning of what they are written as, and that need each of their words for that.
func messagesOver(set []string, text string) [][]int {
	if text == "" {
		return [][]int{nil}
	}
	var all [][]int
	for i, s := range set {
		if strings.HasPrefix(s, text) {
			all = append(all, []int{i})
		} else if left, begins := strings.CutPrefix(text, s); begins {
			for _, message := range messagesOver(set, left) {
				all = append(all, slices.Concat([]int{i}, message))
			}
		}
	}
	return all
}

// leftBehindText lists what is left, if words are put one behind the other until a text is written, each once, in order.
func leftBehindText(set []string, text string) []string {
	if text == "" {
		return []string{""}
	}
	var left []string
	reached := map[int]bool{0: true}
	for place := range len(text) {
		for _, s := range set {
			if rest, begins := strings.CutPrefix(s, text[place:]); begins && reached[place] {
				left = append(left, rest)
			} else if reached[place] && strings.HasPrefix(text[place:], s) {
				reached[place+len(s)] = true
			}
		}
	}
	return ordered(left)
}

// restsByPair writes all d words behind each word, and has the rests of each pair of words from which there are some.
func restsByPair(set []string, d int) map[[2]int][]string {
	rests := map[[2]int][]string{}
	var write func(i int, text string, d int)
	write = func(i int, text string, d int) {
		if d > 0 {
			for _, s := range set {
				write(i, text+s, d-1)
			}
			return
		}
		for j, second := range set {
			var more []string
			if left, begins := strings.CutPrefix(second, text); begins {
				more = []string{left}
			} else if left, begins := strings.CutPrefix(text, second); begins {
				more = leftBehindText(set, left)
			}
			if i != j && len(more) > 0 {
				rests[[2]int{i, j}] = ordered(append(rests[[2]int{i, j}], more...))
			}
		}
	}
	for i, s := range set {
		write(i, s, d)
	}
	return rests
}

// firstPair returns the lexicographically first pair of a kind, and whether there is one.
func firstPair(set []string, is func(pair [2]int) bool) ([]int, bool) {
	for i := range set {
		for j := range set {
			if is([2]int{i, j}) {
				return []int{i, j}, true
			}
		}
	}
	return nil, false
}

const forEver = 1 << 30

// waits tells how many words can end on the first side, letter by letter, while the second one has the same letters, by what is left of a word on each side.
type waits struct {
	set   []string
	known map[[2]string]int
}

func (w waits) most(one string, other string) int {
	if number, is := w.known[[2]string{one, other}]; is {
		return number
	}
	// What leads to itself goes on for ever.
	w.known[[2]string{one, other}] = forEver
	number := 0
	for _, letter := range list("a b c") {
		for _, one := range restsBehind(w.set, one, letter) {
			for _, other := range restsBehind(w.set, other, letter) {
				more := w.most(one, other)
				if one == "" {
					more++
				}
				number = min(forEver, max(number, more))
			}
		}
	}
	w.known[[2]string{one, other}] = number
	return number
}

// waitsByPair has the least d for which there are no rests after d words from two words, or forEver.
func waitsByPair(set []string) map[[2]int]int {
	w := waits{set, map[[2]string]int{}}
	pairs := map[[2]int]int{}
	for i := range set {
		for j := range set {
			if i != j {
				pairs[[2]int{i, j}] = w.most(set[i], set[j])
			}
		}
	}
	return pairs
}

func delayOf(set []string) int {
	delay := 0
	for _, wait := range waitsByPair(set) {
		delay = max(delay, wait)
	}
	return delay
}

func wantDelay(t *testing.T, call string, got int, ok bool, want int) {
	t.Helper()
	if want == forEver {
		wantNoValue(t, call, got, ok)
	} else {
		wantValue(t, call, got, ok, want)
	}
}

func wantPair(t *testing.T, call string, got []int, ok bool, want []int, exists bool) {
	t.Helper()
	if exists {
		wantList(t, call, got, ok, want)
	} else {
		wantNoList(t, call, got, ok)
	}
}

func TestRestsAfter(t *testing.T) {
	for _, c := range []struct {
		set  string
		d    int
		want []string
	}{
		{"", 0, nil}, {"", 20, nil}, {"a", 0, nil}, {"abab", 0, nil}, {"aa", 20, nil}, {"a ba bb", 0, nil}, {"a b c", 0, nil}, {"a b c", 20, nil}, {"a ab", 0, list("b")}, {"a ab", 1, nil}, {"a ab", 20, nil},
		{"a ab bb", 0, list("b")}, {"a ab bb", 1, list("b")}, {"a ab bb", 20, list("b")}, {"ab abb baab", 0, list("b aab")}, {"ab abb baab", 1, nil},
		// The empty rest is one, where both sides are the same.
		{"a aa", 0, []string{"", "a"}}, {"a aa", 20, []string{"", "a"}}, {"a b ab", 0, []string{"", "b"}}, {"a b ab", 1, []string{"", "b"}}, {"a bb abb", 0, []string{"", "bb"}}, {"ab abab", 0, []string{"", "ab"}},
		{"aa aaa", 0, list("a aa")}, {"aa aaa", 1, []string{"", "a", "aa"}}, {"aa aaa", 20, []string{"", "a", "aa"}},
		// The second side needs several words, or none behind the first one for several words of the first side.
		{"a bc aaab", 0, list("c aab")}, {"a bc aaab", 1, list("ab")}, {"a bc aaab", 2, list("b")}, {"a bc aaab", 3, nil},
	} {
		got, ok := impl.RestsAfter(list(c.set), c.d)
		wantList(t, fmt.Sprintf("RestsAfter(%s, %d)", c.set, c.d), got, ok, c.want)
	}
}

func TestRestsMayBeMoreThanASet(t *testing.T) {
	got, ok := impl.RestsAfter(list("b ba baaa baab baac baca bacb bacc"), 0)
	wantList(t, "RestsAfter", got, ok, list("a aa ab ac ca cb cc aaa aab aac aca acb acc"))
}

// checkRests compares all that is told of rests after d words with given ones.
func checkRests(t *testing.T, set []string, d int, byPair map[[2]int][]string) {
	t.Helper()
	var want []string
	for _, rests := range byPair {
		want = append(want, rests...)
	}
	got, ok := impl.RestsAfter(set, d)
	wantList(t, fmt.Sprintf("RestsAfter(%q, %d)", set, d), got, ok, ordered(want))
	has, ok := impl.HasDelay(set, d)
	wantValue(t, fmt.Sprintf("HasDelay(%q, %d)", set, d), has, ok, len(byPair) == 0)
	first, exists := firstPair(set, func(pair [2]int) bool { return len(byPair[pair]) > 0 })
	pair, ok := impl.PairWaiting(set, d)
	wantPair(t, fmt.Sprintf("PairWaiting(%q, %d)", set, d), pair, ok, first, exists)
}

func TestRestsAreThoseOfAllMessages(t *testing.T) {
	for _, set := range delaySets(300) {
		for d := range 4 {
			// As many messages of the first side are written.
			if math.Pow(float64(len(set)), float64(d+1)) <= 700 {
				checkRests(t, set, d, restsByPair(set, d))
			}
		}
	}
	for _, words := range []string{"a ab", "a ab bb", "a bc aaab", "aa aaa", "b aabb bbba", "a aab bba"} {
		for d := 4; d <= 6; d++ {
			checkRests(t, list(words), d, restsByPair(list(words), d))
		}
	}
}

// Each rest after one more word is left of a rest if a word is taken away from it, or left behind what is more of the word.
func TestRestsLeadToRests(t *testing.T) {
	for _, set := range delaySets(600) {
		rests, ok := impl.RestsAfter(set, 0)
		if !ok {
			t.Fatalf("RestsAfter(%q, 0) fails", set)
		}
		for d := 1; d <= impl.MaxDelay; d++ {
			var want []string
			for _, rest := range rests {
				for _, s := range set {
					if left, begins := strings.CutPrefix(rest, s); begins {
						want = append(want, left)
					} else if left, begins := strings.CutPrefix(s, rest); begins {
						want = append(want, leftBehindText(set, left)...)
					}
				}
			}
			rests, ok = impl.RestsAfter(set, d)
			wantList(t, fmt.Sprintf("RestsAfter(%q, %d)", set, d), rests, ok, ordered(want))
		}
	}
}

// Promise 9: delays are told by rests.
func TestDelaysAreToldByRests(t *testing.T) {
	seen := map[bool]int{}
	for _, set := range delaySets(1000) {
		pairs := waitsByPair(set)
		want := delayOf(set)
		got, exists := impl.DelayOf(set)
		wantDelay(t, fmt.Sprintf("DelayOf(%q)", set), got, exists, want)
		for d := range impl.MaxDelay + 1 {
			call := fmt.Sprintf("(%q, %d)", set, d)
			has, ok := impl.HasDelay(set, d)
			wantValue(t, "HasDelay"+call, has, ok, d >= want)
			rests, ok := impl.RestsAfter(set, d)
			if !ok || len(rests) == 0 != has {
				t.Errorf("RestsAfter%s = %q, %v; HasDelay: %v", call, rests, ok, has)
			}
			first, isFirst := firstPair(set, func(pair [2]int) bool { return pairs[pair] > d })
			pair, ok := impl.PairWaiting(set, d)
			wantPair(t, "PairWaiting"+call, pair, ok, first, isFirst)
		}
		if isCode, _ := impl.IsCode(set); exists && !isCode {
			t.Errorf("%q has the delay %d, but is no code", set, got)
		}
		if isPrefix, _ := impl.IsPrefixSet(set); isPrefix != (exists && got == 0) {
			t.Errorf("%q has the delay %d, %v; a prefix set: %v", set, got, exists, isPrefix)
		}
		seen[exists]++
	}
	if seen[false] < 100 || seen[true] < 100 {
		t.Errorf("too few sets: %v", seen)
	}
}

func TestDelayOfAndDelayBack(t *testing.T) {
	for _, c := range []struct {
		set         string
		delay, back int
	}{
		{"", 0, 0}, {"a", 0, 0}, {"abab", 0, 0}, {"cccccccc", 0, 0}, {"a b c", 0, 0}, {"ab ba", 0, 0}, {"a ab", 1, 0}, {"b ab", 0, 1}, {"a ba", 0, 1}, {"b ba", 1, 0}, {"a aab", 2, 0}, {"b abb", 0, 2},
		{"a bc aaab", 3, 0}, {"a aba", 1, 1}, {"a abb baa", 1, 2}, {"b aabb bbba", 3, 2}, {"a ab bbaaaab", 1, 4}, {"b aba cbbbb", 0, 4}, {"a aaaaaaab", 7, 0}, {"ab abb baab", 1, 1},
		// Codes that have no delay on one side, or on both.
		{"a ab bb", forEver, 0}, {"a ba bb", 0, forEver}, {"ab bb abb", forEver, 1}, {"aa ab aab", 1, forEver}, {"aa ab bb aab", forEver, forEver}, {"bb aba bba bbba baabbb", 2, forEver},
		// Sets that are no codes.
		{"a aa", forEver, forEver}, {"a ab ba", forEver, forEver}, {"aa aaa", forEver, forEver}, {"a b ab", forEver, forEver}, {strings.Join(twelve(), " "), forEver, forEver},
		// Delays that are met exactly, and greater ones.
		{slowTwenty, 20, 2}, {slowTwentyOne, 21, 2}, {slowTwentySeven, 27, 1},
	} {
		got, ok := impl.DelayOf(list(c.set))
		wantDelay(t, "DelayOf("+c.set+")", got, ok, c.delay)
		got, ok = impl.DelayBack(list(c.set))
		wantDelay(t, "DelayBack("+c.set+")", got, ok, c.back)
		// Backwards both change places.
		got, ok = impl.DelayBack(backwards(list(c.set)))
		wantDelay(t, "DelayBack("+c.set+" backwards)", got, ok, c.delay)
	}
	for _, set := range delaySets(1000) {
		got, ok := impl.DelayBack(set)
		wantDelay(t, fmt.Sprintf("DelayBack(%q)", set), got, ok, delayOf(backwards(set)))
	}
}

func TestHasDelayUpToMaxDelay(t *testing.T) {
	for _, c := range []struct {
		set  string
		d    int
		want bool
	}{
		{"", 0, true}, {"a", 0, true}, {"a ba bb", 0, true}, {"a ba bb", 20, true}, {"a ab", 0, false}, {"a ab", 1, true}, {"a ab", 20, true}, {"a ab bb", 0, false}, {"a ab bb", 20, false}, {"a aa", 20, false},
		{slowTwenty, 19, false}, {slowTwenty, 20, true}, {slowTwentyOne, 19, false}, {slowTwentyOne, 20, false}, {slowTwentySeven, 20, false},
	} {
		got, ok := impl.HasDelay(list(c.set), c.d)
		wantValue(t, fmt.Sprintf("HasDelay(%s, %d)", c.set, c.d), got, ok, c.want)
	}
}

func TestPairWaiting(t *testing.T) {
	for _, c := range []struct {
		set  string
		d    int
		want []int
	}{
		{"a ab", 0, []int{0, 1}}, {"a ab bb", 0, []int{0, 1}}, {"a ab bb", 20, []int{0, 1}}, {"a bc aaab", 0, []int{0, 2}}, {"a bc aaab", 2, []int{0, 2}}, {"b aa aab", 0, []int{1, 2}}, {"b ab bab", 0, []int{0, 2}},
		// The pairs that come first do not wait long enough, one of them turned round.
		{"a ab aba", 0, []int{0, 1}}, {"a ab aba", 1, []int{1, 2}}, {"a b ba abc", 1, []int{0, 3}}, {"a b ba abc", 2, []int{1, 2}}, {"b c cb bcca", 2, []int{0, 3}}, {"b c cb bcca", 3, []int{1, 2}}, {turnedRound, 0, []int{0, 1}}, {turnedRound, 1, []int{1, 0}},
		{slowTwenty, 19, []int{0, 5}}, {slowTwentyOne, 20, []int{0, 4}}, {slowTwentySeven, 20, []int{0, 11}},
	} {
		got, ok := impl.PairWaiting(list(c.set), c.d)
		wantList(t, fmt.Sprintf("PairWaiting(%s, %d)", c.set, c.d), got, ok, c.want)
	}
	for _, c := range []struct {
		set string
		d   int
	}{{"", 0}, {"", 20}, {"a", 0}, {"aa", 20}, {"a ba bb", 0}, {"a b c", 20}, {"a ab", 1}, {"a ab", 20}, {"a bc aaab", 3}, {turnedRound, 2}, {slowTwenty, 20}} {
		got, ok := impl.PairWaiting(list(c.set), c.d)
		wantNoList(t, fmt.Sprintf("PairWaiting(%s, %d)", c.set, c.d), got, ok)
	}
}

// A complete code has a delay just if it is a prefix set.
func TestCompleteCodesWithADelayArePrefixSets(t *testing.T) {
	for letters := 2; letters <= 3; letters++ {
		for _, set := range fullCodes(letters) {
			want := forEver
			if hasNoBeginning(set) {
				want = 0
			}
			got, ok := impl.DelayOf(set)
			wantDelay(t, fmt.Sprintf("DelayOf(%q)", set), got, ok, want)
		}
	}
}

// firstsOf lists the first indices of messages, each once, increasing.
func firstsOf(messages [][]int) []int {
	var firsts []int
	for _, message := range messages {
		firsts = append(firsts, message[0])
	}
	return different(firsts)
}

// commonBeginning returns what all messages begin with.
func commonBeginning(messages [][]int) []int {
	if len(messages) == 0 {
		return nil
	}
	common := messages[0]
	for _, message := range messages {
		k := 0
		for k < min(len(common), len(message)) && common[k] == message[k] {
			k++
		}
		common = common[:k]
	}
	return common
}

// wantBeginning compares all that is told of a word as a beginning.
func wantBeginning(t *testing.T, set []string, s string, is bool, first []int, decided []int, rest string) {
	t.Helper()
	call := fmt.Sprintf("(%q, %q)", set, s)
	gotIs, ok := impl.IsBeginning(set, s)
	wantValue(t, "IsBeginning"+call, gotIs, ok, is)
	got, ok := impl.FirstWords(set, s)
	wantList(t, "FirstWords"+call, got, ok, first)
	got, ok = impl.DecidedWords(set, s)
	wantList(t, "DecidedWords"+call, got, ok, decided)
	gotRest, ok := impl.RestUndecided(set, s)
	wantValue(t, "RestUndecided"+call, gotRest, ok, rest)
}

// checkBeginning finds by all messages of which a word is a beginning what is told of it.
func checkBeginning(t *testing.T, set []string, s string) {
	t.Helper()
	messages := messagesOver(set, s)
	first := indicesUpTo(len(set))
	if s != "" {
		first = firstsOf(messages)
	}
	decided := commonBeginning(messages)
	rest := s[min(len(s), len(written(set, decided))):]
	wantBeginning(t, set, s, len(messages) > 0, first, decided, rest)
}

// randomMessage draws words until no more fit in a number of letters.
func randomMessage(random *rand.Rand, set []string, letters int) []int {
	var message []int
	for len(set) > 0 {
		i := random.Intn(len(set))
		letters -= len(set[i])
		if letters < 0 {
			break
		}
		message = append(message, i)
	}
	return message
}

func TestBeginningsAreThoseOfMessages(t *testing.T) {
	random := rand.New(rand.NewSource(9))
	for i, set := range delaySets(500) {
		words := wordsUpTo("abc", 3)
		if i%5 == 0 {
			words = wordsUpTo("ab", 6)
		}
		for range 3 {
			s := written(set, randomMessage(random, set, 12))
			for k := range len(s) {
				words = append(words, s[:k], s[:k]+"a", s[k:])
			}
		}
		for _, s := range words {
			checkBeginning(t, set, s)
		}
	}
}

func TestBeginnings(t *testing.T) {
	for _, c := range []struct {
		set, s         string
		is             bool
		first, decided []int
		rest           string
	}{
		// The empty word is a beginning of each message.
		{"", "", true, nil, nil, ""}, {"a", "", true, []int{0}, nil, ""}, {"a ab bb", "", true, []int{0, 1, 2}, nil, ""},
		// No beginnings: no word can be next, even if all that could be next begin with the same one.
		{"", "a", false, nil, nil, "a"}, {"a", "b", false, nil, nil, "b"}, {"a", "c", false, nil, nil, "c"}, {"a ab", "b", false, nil, nil, "b"}, {"a ab", "abb", false, nil, nil, "abb"}, {"ab", "abb", false, nil, nil, "abb"}, {"a ab bb", "ba", false, nil, nil, "ba"}, {"a ba bb", "ac", false, nil, nil, "ac"},
		// Written words.
		{"a", "aaa", true, []int{0}, []int{0, 0, 0}, ""}, {"a ab", "ab", true, []int{1}, []int{1}, ""}, {"a ab", "aab", true, []int{0}, []int{0, 1}, ""}, {"a ba bb", "abbba", true, []int{0}, []int{0, 2, 1}, ""}, {"aa aaab", "aaab", true, []int{1}, []int{1}, ""}, {"ab abc", "ababc", true, []int{0}, []int{0, 1}, ""},
		// Written words of which not all words are decided, or none.
		{"a ab", "a", true, []int{0, 1}, nil, "a"}, {"a ab", "aa", true, []int{0}, []int{0}, "a"}, {"a ab", "aba", true, []int{1}, []int{1}, "a"}, {"a ab bb", "abbb", true, []int{0, 1}, nil, "abbb"}, {"a ab bb", "bbabb", true, []int{2}, []int{2}, "abb"}, {"aa aaa", "aaaa", true, []int{0, 1}, nil, "aaaa"}, {"c ab abc", "abc", true, []int{1, 2}, nil, "abc"}, {"a ab ba", "aba", true, []int{0, 1}, nil, "aba"},
		// Words that end within a word, all of whose letters are decided: the last word is longer than what is left.
		{"ab", "a", true, []int{0}, []int{0}, ""}, {"abc", "ab", true, []int{0}, []int{0}, ""}, {"abc", "abca", true, []int{0}, []int{0, 0}, ""}, {"a bbb", "ab", true, []int{0}, []int{0, 1}, ""}, {"a ab bb", "b", true, []int{2}, []int{2}, ""}, {"ab cabcabca", "abca", true, []int{0}, []int{0, 1}, ""},
		// Others that end within a word.
		{"a ba bb", "abbab", true, []int{0}, []int{0, 2, 0}, "b"}, {"aa ab", "a", true, []int{0, 1}, nil, "a"}, {"aa aaab", "aaa", true, []int{0, 1}, nil, "aaa"}, {"a ab bb", "aab", true, []int{0}, []int{0}, "ab"}, {"ab abab", "aba", true, []int{0, 1}, nil, "aba"}, {"b ba abc", "bab", true, []int{0, 1}, nil, "bab"}, {"b ba abc", "babc", true, []int{0}, []int{0, 2}, ""},
	} {
		wantBeginning(t, list(c.set), c.s, c.is, c.first, c.decided, c.rest)
	}
}

func TestBeginningsOfMaxWord(t *testing.T) {
	zeros := make([]int, 60)
	twos := slices.Repeat([]int{2}, 29)
	for _, c := range []struct {
		set, s         string
		is             bool
		first, decided []int
		rest           string
		missing        []string
	}{
		{"a", strings.Repeat("a", 60), true, []int{0}, zeros, "", []string{""}},
		{"a", strings.Repeat("a", 59) + "b", false, nil, nil, strings.Repeat("a", 59) + "b", nil},
		{"ab", strings.Repeat("ab", 30), true, []int{0}, zeros[:30], "", []string{""}},
		{"ab", strings.Repeat("ab", 29) + "aa", false, nil, nil, strings.Repeat("ab", 29) + "aa", nil},
		// The message has more letters than a word may have.
		{"aaaaaaab", strings.Repeat("aaaaaaab", 7) + "aaaa", true, []int{0}, zeros[:8], "", list("aaab")},
		{"aaaaaaab aaaaaaba", strings.Repeat("aaaaaaab", 7) + "aaaa", true, []int{0}, zeros[:7], "aaaa", list("aaab aaba")},
		{"a ab bb", "a" + strings.Repeat("b", 59), true, []int{0, 1}, nil, "a" + strings.Repeat("b", 59), []string{""}},
		{"a ab bb", "a" + strings.Repeat("b", 58) + "a", true, []int{0}, slices.Concat(zeros[:1], twos), "a", []string{""}},
		{"a ab bb", "aa" + strings.Repeat("b", 58), true, []int{0}, []int{0}, "a" + strings.Repeat("b", 58), []string{""}},
		{"a aa aaa aaaa aaaaa aaaaaa aaaaaaa aaaaaaaa", strings.Repeat("a", 60), true, indicesUpTo(8), nil, strings.Repeat("a", 60), []string{""}},
		{"aa aaa aaaab", strings.Repeat("a", 60), true, indicesUpTo(2), nil, strings.Repeat("a", 60), []string{""}},
	} {
		wantBeginning(t, list(c.set), c.s, c.is, c.first, c.decided, c.rest)
		got, ok := impl.MissingBehind(list(c.set), c.s)
		if c.is {
			wantList(t, "MissingBehind("+c.set+", "+c.s+")", got, ok, c.missing)
		} else {
			wantNoList(t, "MissingBehind("+c.set+", "+c.s+")", got, ok)
		}
	}
}

// Promise 9: decided words begin each message. Of n words of a code with the delay d at least the first n - d are decided.
func TestDecidedWordsBeginEachMessage(t *testing.T) {
	random := rand.New(rand.NewSource(90))
	found := 0
	for _, set := range delaySets(1000) {
		d, exists := impl.DelayOf(set)
		if !exists {
			continue
		}
		for range 12 {
			message := randomMessage(random, set, impl.MaxWord)
			decided, ok := impl.DecidedWords(set, written(set, message))
			sure := max(len(message)-d, 0)
			if !ok || len(decided) < sure || !slices.Equal(decided, message[:len(decided)]) {
				t.Errorf("DecidedWords of %v in %q with the delay %d = %v, %v", message, set, d, decided, ok)
			}
			if d > 0 && sure > 0 {
				found++
			}
		}
	}
	if found < 500 {
		t.Errorf("only %d messages of codes with a delay", found)
	}
}

// A code with the least delay d, not 0, has messages of d words of which none is decided, but none of d + 1 words.
func TestDelaysAreLeast(t *testing.T) {
	for _, set := range smallSets() {
		d, exists := impl.DelayOf(set)
		if !exists || d == 0 || d > 3 {
			continue
		}
		undecided := make([]int, d+2)
		var write func(message []int)
		write = func(message []int) {
			if decided, ok := impl.DecidedWords(set, written(set, message)); ok && len(decided) == 0 {
				undecided[len(message)]++
			}
			for i := range set {
				if len(message) <= d {
					write(slices.Concat(message, []int{i}))
				}
			}
		}
		write(nil)
		if undecided[d] == 0 || undecided[d+1] > 0 {
			t.Errorf("%q has the delay %d, but messages without decided words: %v", set, d, undecided)
		}
	}
}

func TestSlowMessages(t *testing.T) {
	for _, c := range []struct {
		set, s string
		first  []int
	}{
		{slowTwenty, "bbbbbbbcbbabbbcbbabbcbbabbbbb", []int{0, 5}}, {slowTwentyOne, "aaaaaaabacaaabacaaaaabbccaaa", []int{0, 4}}, {slowTwentySeven, "ccccccabbacccccabbaccccbbcccccaabbbcccacaac", []int{0, 11}},
	} {
		set := list(c.set)
		message, ok := impl.ReadWord(set, c.s)
		wantValue(t, "words of "+c.s, len(message), ok, delayOf(set))
		wantBeginning(t, set, c.s, true, c.first, nil, c.s)
		// One word more decides the first one.
		for i := range set {
			more := c.s + set[i]
			decided, ok := impl.DecidedWords(set, more)
			if !ok || len(decided) == 0 || decided[0] != message[0] {
				t.Errorf("DecidedWords(%s, %s) = %v, %v", c.set, more, decided, ok)
			}
		}
	}
}

// missingBehind tries all words of the letters of a set that are no longer than MaxLength, but for those that begin with one that is found.
func missingBehind(set []string, s string) []string {
	isWritten := writtenBy(set)
	var missing []string
	level := []string{""}
	for range impl.MaxLength + 1 {
		var next []string
		for _, more := range level {
			if isWritten(s + more) {
				missing = append(missing, more)
				continue
			}
			for _, letter := range strings.Split(alphabetOf(set), "") {
				next = append(next, more+letter)
			}
		}
		level = next
	}
	return missing
}

func checkMissing(t *testing.T, set []string, s string, want []string) {
	t.Helper()
	call := fmt.Sprintf("MissingBehind(%q, %q)", set, s)
	got, ok := impl.MissingBehind(set, s)
	if len(want) == 0 || len(want) > impl.MaxSet {
		wantNoList(t, call, got, ok)
	} else {
		wantList(t, call, got, ok, want)
	}
	// There are words missing, perhaps too many, behind beginnings alone.
	is, ok := impl.IsBeginning(set, s)
	wantValue(t, fmt.Sprintf("IsBeginning(%q, %q)", set, s), is, ok, len(want) > 0)
}

func TestMissingBehindIsAllThatIsMissing(t *testing.T) {
	random := rand.New(rand.NewSource(99))
	for i, set := range append(smallSets(), mixedSets(300)...) {
		if i%10 > 0 {
			continue
		}
		words := wordsUpTo("ab", 2)
		s := written(set, randomMessage(random, set, 30))
		for range 4 {
			words = append(words, s[:random.Intn(len(s)+1)])
		}
		for _, s := range words {
			checkMissing(t, set, s, missingBehind(set, s))
		}
	}
}

func TestMissingBehind(t *testing.T) {
	for _, c := range []struct {
		set, s string
		want   []string
	}{
		// Nothing is missing behind a written word, even if longer ones begin with it.
		{"", "", []string{""}}, {"a", "", []string{""}}, {"a ba bb", "", []string{""}}, {"a", "aa", []string{""}}, {"a ab", "a", []string{""}}, {"ab abc", "ab", []string{""}}, {"a ab bb", "abb", []string{""}}, {"aa aaa", "aaaa", []string{""}},
		{"ab", "a", list("b")}, {"ab", "aba", list("b")}, {"a ba bb", "b", list("a b")}, {"a ba bb", "abab", list("a b")}, {"a ab bb", "b", list("b")}, {"a ab bb", "abbb", []string{""}}, {"aa aaa", "a", list("a")}, {"aaaaaaab", "a", list("aaaaaab")}, {"aaaaaaab", "aaaaaaabaaaaaaa", list("b")},
		// Ways to read what is in front of the last word, and words that begin with others.
		{"ab abab", "aba", list("b")}, {"ab abb", "a", list("b")}, {"ab abba", "aba", list("b")}, {"b ba abc acc", "ba", []string{""}}, {"b ba abc acc", "baa", list("bc cc")}, {"b abb bacc", "ba", list("bb cc")}, {"b bab babacc aacbb", "baba", list("cc acbb")}, {"b ba aacc ab", "baa", list("b cc acc")},
	} {
		set, _ := impl.SetOf(list(c.set))
		checkMissing(t, set, c.s, c.want)
		if missing := missingBehind(set, c.s); !slices.Equal(missing, c.want) {
			t.Errorf("behind %s in %s there are missing %q, not %q", c.s, c.set, missing, c.want)
		}
	}
	for _, c := range [][2]string{{"", "a"}, {"", "c"}, {"a", "b"}, {"a", "ab"}, {"ab", "b"}, {"ab", "aa"}, {"ab", "abb"}, {"a ab", "abb"}, {"a ab bb", "ba"}, {"a ab bb", "abbac"}} {
		checkMissing(t, list(c[0]), c[1], nil)
	}
}

func TestMissingBehindUpToMaxSet(t *testing.T) {
	got, ok := impl.MissingBehind(list(missingTwelve), "baa")
	wantList(t, "MissingBehind of twelve", got, ok, list("ba bb aba abb bca bcb cab cba abca abcb acab acba"))
	// One more is missing, and a word in place of it that begins with one of the others is not.
	thirteen, _ := impl.SetOf(append(list(missingTwelve), "acc"))
	checkMissing(t, thirteen, "baa", missingBehind(thirteen, "baa"))
	if missing := missingBehind(thirteen, "baa"); len(missing) != 13 {
		t.Errorf("%q are missing; want 13", missing)
	}
	twelve, _ := impl.SetOf(append(list(missingTwelve), "aabac"))
	got, ok = impl.MissingBehind(twelve, "baa")
	wantList(t, "MissingBehind of twelve and a longer one", got, ok, list("ba bb aba abb bca bcb cab cba abca abcb acab acba"))
	// Twelve words of a set.
	set := list("aac aba abb abc aca acb acc aaaa aaab aaba aabb aabc")
	got, ok = impl.MissingBehind(set, "a")
	wantList(t, "MissingBehind of twelve words", got, ok, list("ac ba bb bc ca cb cc aaa aab aba abb abc"))
	// Two letters behind which there are many more words, all of which begin with others.
	got, ok = impl.MissingBehind(list("ba aab aac aaba aabb aabc aaca aacb aacc aabaa aabab"), "a")
	wantList(t, "MissingBehind of longer ones", got, ok, list("ab ac"))
}

func wantNoDelay(t *testing.T, set []string, d int) {
	t.Helper()
	call := fmt.Sprintf("(%q, %d)", set, d)
	rests, ok := impl.RestsAfter(set, d)
	wantNoList(t, "RestsAfter"+call, rests, ok)
	has, ok := impl.HasDelay(set, d)
	wantNoValue(t, "HasDelay"+call, has, ok)
	pair, ok := impl.PairWaiting(set, d)
	wantNoList(t, "PairWaiting"+call, pair, ok)
}

func TestDelaysThatAreRefused(t *testing.T) {
	for _, d := range noDelays {
		for _, words := range []string{"", "a", "a b", "a ab", "a aa", "a ab bb", slowTwentyOne} {
			wantNoDelay(t, list(words), d)
		}
	}
	for _, set := range noSets {
		for _, d := range append([]int{0, 1, impl.MaxDelay}, noDelays...) {
			wantNoDelay(t, set, d)
		}
		got, ok := impl.DelayOf(set)
		wantNoValue(t, fmt.Sprintf("DelayOf(%q)", set), got, ok)
		got, ok = impl.DelayBack(set)
		wantNoValue(t, fmt.Sprintf("DelayBack(%q)", set), got, ok)
	}
}

func wantNoBeginning(t *testing.T, set []string, s string) {
	t.Helper()
	call := fmt.Sprintf("(%q, %q)", set, s)
	is, ok := impl.IsBeginning(set, s)
	wantNoValue(t, "IsBeginning"+call, is, ok)
	got, ok := impl.FirstWords(set, s)
	wantNoList(t, "FirstWords"+call, got, ok)
	got, ok = impl.DecidedWords(set, s)
	wantNoList(t, "DecidedWords"+call, got, ok)
	rest, ok := impl.RestUndecided(set, s)
	wantNoValue(t, "RestUndecided"+call, rest, ok)
	missing, ok := impl.MissingBehind(set, s)
	wantNoList(t, "MissingBehind"+call, missing, ok)
}

func TestBeginningsThatAreRefused(t *testing.T) {
	for _, set := range noSets {
		for _, s := range append([]string{"", "a", "b", "ab", strings.Repeat("a", 60)}, noWordTexts...) {
			wantNoBeginning(t, set, s)
		}
	}
	for _, s := range noWordTexts {
		for _, words := range []string{"", "a", "a b", "a ab bb", "a b c"} {
			wantNoBeginning(t, list(words), s)
		}
	}
}
