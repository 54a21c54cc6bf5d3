package impl

import (
	"cmp"
	"slices"
	"strings"
)

const MaxWord = 60
const MaxLength = 8
const MaxSet = 12
const MaxLetters = 3

const (
	alphabet  = "abc"
	maxListed = 40
	wordComma = ","
	noWords   = "-"
)

// word has its methods so that they can be handed on as method expressions, for all words of a list.
type word string

func (w word) isWord() bool {
	return len(w) <= MaxWord && strings.Trim(string(w), alphabet) == ""
}

func (w word) fitsInSet() bool {
	return w != "" && len(w) <= MaxLength && w.isWord()
}

func (w word) length() int {
	return len(w)
}

func (w word) letterNumbers() []int {
	numbers := make([]int, MaxLetters)
	for i := range numbers {
		numbers[i] = strings.Count(string(w), alphabet[i:i+1])
	}
	return numbers
}

func (w word) backwards() string {
	letters := []byte(w)
	slices.Reverse(letters)
	return string(letters)
}

// renamed requires a word and three names that are valid.
func (w word) renamed(names []int) string {
	letters := []byte(w)
	for i, letter := range letters {
		letters[i] = alphabet[names[letter-alphabet[0]]]
	}
	return string(letters)
}

// listOf returns what a function tells of each word of a list.
func listOf[T any](words []string, tell func(word) T) []T {
	list := make([]T, 0, len(words))
	for _, s := range words {
		list = append(list, tell(word(s)))
	}
	return list
}

func areAll(words []string, is func(word) bool) bool {
	for _, s := range words {
		if !is(word(s)) {
			return false
		}
	}
	return true
}

func compareWords(s string, t string) int {
	return cmp.Or(cmp.Compare(len(s), len(t)), strings.Compare(s, t))
}

// inOrder returns the different words of a list, in the order of words.
func inOrder(words []string) []string {
	list := slices.Clone(words)
	slices.SortFunc(list, compareWords)
	return slices.Compact(list)
}

// setOfFitting requires words that fit in a set; it fails if they are too many.
func setOfFitting(words []string) ([]string, bool) {
	set := inOrder(words)
	if len(set) > MaxSet {
		return nil, false
	}
	return set, true
}

// IsWord reports whether s is a word.
func IsWord(s string) bool {
	return word(s).isWord()
}

// IsSet reports whether a list is a set.
func IsSet(set []string) bool {
	if len(set) > MaxSet || !areAll(set, word.fitsInSet) {
		return false
	}
	for i := 1; i < len(set); i++ {
		if compareWords(set[i-1], set[i]) >= 0 {
			return false
		}
	}
	return true
}

// SetOf returns the set of the different words of a list of at most 40 words of 1..MaxLength letters.
func SetOf(words []string) ([]string, bool) {
	if len(words) > maxListed || !areAll(words, word.fitsInSet) {
		return nil, false
	}
	return setOfFitting(words)
}

// Begins reports whether s begins with t.
func Begins(s string, t string) (bool, bool) {
	if !IsWord(s) || !IsWord(t) {
		return false, false
	}
	return strings.HasPrefix(s, t), true
}

// Ends reports whether s ends with t.
func Ends(s string, t string) (bool, bool) {
	if !IsWord(s) || !IsWord(t) {
		return false, false
	}
	return strings.HasSuffix(s, t), true
}

// CountIn returns at how many places t, which is not empty, is within s; the places may overlap.
func CountIn(s string, t string) (int, bool) {
	if !IsWord(s) || !IsWord(t) || t == "" {
		return 0, false
	}
	places := 0
	for i := range len(s) {
		if strings.HasPrefix(s[i:], t) {
			places++
		}
	}
	return places, true
}

// LettersOf returns the numbers of letters a, b and c.
func LettersOf(s string) ([]int, bool) {
	if !IsWord(s) {
		return nil, false
	}
	return word(s).letterNumbers(), true
}

// LessWord reports whether s comes before t in the order.
func LessWord(s string, t string) (bool, bool) {
	if !IsWord(s) || !IsWord(t) {
		return false, false
	}
	return compareWords(s, t) < 0, true
}

// Concat returns all words of a list of at most MaxWord words, one behind the other.
func Concat(words []string) (string, bool) {
	if len(words) > MaxWord || !areAll(words, word.isWord) {
		return "", false
	}
	joined := strings.Join(words, "")
	if !IsWord(joined) {
		return "", false
	}
	return joined, true
}

// ReverseSet returns the set of all words backwards.
func ReverseSet(set []string) ([]string, bool) {
	if !IsSet(set) {
		return nil, false
	}
	return setOfFitting(listOf(set, word.backwards))
}

// areNames reports whether names has 0, 1 and 2 once each.
func areNames(names []int) bool {
	if len(names) != MaxLetters {
		return false
	}
	for k := range MaxLetters {
		if !slices.Contains(names, k) {
			return false
		}
	}
	return true
}

// RenameSet returns the set with other letters: that with the index k becomes that with the index names[k].
func RenameSet(set []string, names []int) ([]string, bool) {
	if !IsSet(set) || !areNames(names) {
		return nil, false
	}
	return setOfFitting(listOf(set, func(w word) string { return w.renamed(names) }))
}

// JoinSets returns the set of all words of both sets.
func JoinSets(a []string, b []string) ([]string, bool) {
	if !IsSet(a) || !IsSet(b) {
		return nil, false
	}
	return setOfFitting(slices.Concat(a, b))
}

// WithoutWord returns the set without the word with the index i.
func WithoutWord(set []string, i int) ([]string, bool) {
	if !IsSet(set) || i < 0 || i >= len(set) {
		return nil, false
	}
	return slices.Concat(set[:i], set[i+1:]), true
}

// restsOf returns what is left, not empty, if some word of a is taken away at the beginning of a word of b.
func restsOf(a []string, b []string) []string {
	var rests []string
	for _, s := range a {
		for _, t := range b {
			if rest, begins := strings.CutPrefix(t, s); begins && rest != "" {
				rests = append(rests, rest)
			}
		}
	}
	return rests
}

// LeftQuotient returns the words that are left, not empty ones, if some word of a is taken away at the beginning of a word of b, each once, in order.
// The document calls them words and not a set, so they may be more than MaxSet.
func LeftQuotient(a []string, b []string) ([]string, bool) {
	if !IsSet(a) || !IsSet(b) {
		return nil, false
	}
	return inOrder(restsOf(a, b)), true
}

// LengthsOf returns the lengths of all words of a set, in order.
func LengthsOf(set []string) ([]int, bool) {
	if !IsSet(set) {
		return nil, false
	}
	return listOf(set, word.length), true
}

// BordersOf returns all lengths k, in 1..length - 1, of beginnings of s that are its ends, too, increasing.
func BordersOf(s string) ([]int, bool) {
	if !IsWord(s) {
		return nil, false
	}
	var borders []int
	for k := 1; k < len(s); k++ {
		if strings.HasSuffix(s, s[:k]) {
			borders = append(borders, k)
		}
	}
	return borders, true
}

// SetText returns the words with , between them, or - for none.
func SetText(set []string) (string, bool) {
	if !IsSet(set) {
		return "", false
	}
	if len(set) == 0 {
		return noWords, true
	}
	return strings.Join(set, wordComma), true
}

// ParseSet returns the set with a SetText.
func ParseSet(s string) ([]string, bool) {
	if s == noWords {
		return nil, true
	}
	// One part more than a set can have is enough to refuse a text, however long it is.
	set := strings.SplitN(s, wordComma, MaxSet+1)
	if !IsSet(set) {
		return nil, false
	}
	return set, true
}
