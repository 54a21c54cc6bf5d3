package impl

import (
	"slices"
	"strings"
)

type Ratio struct {
	Num int
	Den int
}

const (
	fewestLetters           = 2
	mostPower               = 4
	mostLettersOfCompletion = 30
	mostLengthsListed       = 8
)

// lengthSource is where the lengths of a sum are from: given ones, or those of words.
type lengthSource interface {
	lengths() []int
}

type givenLengths []int

type wordsWithLengths []string

func (given givenLengths) lengths() []int {
	return given
}

func (words wordsWithLengths) lengths() []int {
	return listOf(words, word.length)
}

func areLetters(letters int) bool {
	return letters >= fewestLetters && letters <= MaxLetters
}

// isValid reports whether a source is valid for a number of letters, and this number, too.
func isValid(source lengthSource, letters int) bool {
	if !areLetters(letters) {
		return false
	}
	switch source := source.(type) {
	case givenLengths:
		return areLengths(source)
	case wordsWithLengths:
		return IsSet(source) && strings.Trim(strings.Join(source, ""), alphabet[:letters]) == ""
	}
	return false
}

func isLength(length int) bool {
	return length >= 1 && length <= MaxLength
}

func areLengths(lengths []int) bool {
	allFit := !slices.ContainsFunc(lengths, func(length int) bool { return !isLength(length) })
	return len(lengths) <= MaxSet && allFit && slices.IsSorted(lengths)
}

// power requires an exponent that is not negative.
func power(base int, exponent int) int {
	product := 1
	for range exponent {
		product *= base
	}
	return product
}

// divisorOf returns the greatest common divisor of two numbers that are not negative.
func divisorOf(a int, b int) int {
	for b > 0 {
		a, b = b, a%b
	}
	return a
}

// ratioOf requires parts that are not negative, and a whole that is greater than 0.
func ratioOf(parts int, whole int) Ratio {
	divisor := divisorOf(parts, whole)
	return Ratio{parts / divisor, whole / divisor}
}

// partsOf returns what a length adds to a sum of which wholeOf is 1; chapter 7 has lengths up to MaxDeep.
func partsOf(length int, letters int) int {
	return power(letters, MaxDeep-length)
}

func wholeOf(letters int) int {
	return power(letters, MaxDeep)
}

// allPartsOf returns Kraft's sum, of which wholeOf is 1.
func allPartsOf(source lengthSource, letters int) int {
	parts := 0
	for _, length := range source.lengths() {
		parts += partsOf(length, letters)
	}
	return parts
}

func sumOf(source lengthSource, letters int) (Ratio, bool) {
	if !isValid(source, letters) {
		return Ratio{}, false
	}
	return ratioOf(allPartsOf(source, letters), wholeOf(letters)), true
}

// KraftSum returns Kraft's sum of a set.
func KraftSum(set []string, letters int) (Ratio, bool) {
	return sumOf(wordsWithLengths(set), letters)
}

// SumOfLengths returns Kraft's sum of lengths.
func SumOfLengths(lengths []int, letters int) (Ratio, bool) {
	return sumOf(givenLengths(lengths), letters)
}

// roomBeside returns what Kraft's sum of lengths leaves of 1, in parts of which wholeOf is 1; it is negative if the sum is greater than 1.
func roomBeside(lengths []int, letters int) (int, bool) {
	source := givenLengths(lengths)
	if !isValid(source, letters) {
		return 0, false
	}
	return wholeOf(letters) - allPartsOf(source, letters), true
}

// CanBePrefix reports whether lengths are those of some prefix set.
func CanBePrefix(lengths []int, letters int) (bool, bool) {
	room, valid := roomBeside(lengths, letters)
	return valid && room >= 0, valid
}

// wordBehind returns the first word of a length that comes behind all words that begin with others whose sum has these parts.
func wordBehind(parts int, letters int, length int) string {
	var text []byte
	for k := range length {
		text = append(text, alphabet[parts/partsOf(k+1, letters)%letters])
	}
	return string(text)
}

// FirstPrefixCode returns the prefix set with given lengths that is made so:
// for each length, in order, the first word, as a text, that does not begin with one that is there.
func FirstPrefixCode(lengths []int, letters int) ([]string, bool) {
	can, valid := CanBePrefix(lengths, letters)
	if !can || !valid {
		return nil, false
	}
	var set []string
	taken := 0
	for _, length := range lengths {
		set = append(set, wordBehind(taken, letters, length))
		taken += partsOf(length, letters)
	}
	return set, true
}

// RoomLeft returns how many words of a length, none of which begins with one of a prefix set with these lengths, there still are.
// It fails if some lengths are greater than it, or if lengths are those of no prefix set.
func RoomLeft(lengths []int, letters int, length int) (int, bool) {
	room, valid := roomBeside(lengths, letters)
	if !valid || !isLength(length) || room < 0 {
		return 0, false
	}
	if len(lengths) > 0 && lengths[len(lengths)-1] > length {
		return 0, false
	}
	return room / partsOf(length, letters), true
}

func isPrefixSet(set []string) bool {
	return len(restsOf(set, set)) == 0
}

// IsPrefixSet reports whether no word of a set begins with another one.
func IsPrefixSet(set []string) (bool, bool) {
	if !IsSet(set) {
		return false, false
	}
	return isPrefixSet(set), true
}

// IsSuffixSet reports whether no word of a set ends with another one.
func IsSuffixSet(set []string) (bool, bool) {
	if !IsSet(set) {
		return false, false
	}
	return isPrefixSet(listOf(set, word.backwards)), true
}

func beginsOne(s string, set []string) bool {
	return slices.ContainsFunc(set, func(t string) bool { return strings.HasPrefix(t, s) })
}

// FillPrefix returns a prefix set with all words put to it that are a beginning, perhaps of no letters, of one of its words with one letter behind,
// that do not begin with a word of the set and are no beginnings of one.
// It fails if it has more than MaxSet words, or if the given one is empty or no prefix set.
func FillPrefix(set []string, letters int) ([]string, bool) {
	if !isValid(wordsWithLengths(set), letters) || len(set) == 0 || !isPrefixSet(set) {
		return nil, false
	}
	filled := slices.Clone(set)
	for _, s := range set {
		for k := range len(s) {
			for letter := range letters {
				// As s[:k] begins with no word of a prefix set, put begins with none, either, but for itself.
				put := s[:k] + alphabet[letter:letter+1]
				if !beginsOne(put, set) {
					filled = append(filled, put)
				}
			}
		}
	}
	return setOfFitting(filled)
}

// IsMaximalPrefix reports whether a set is a prefix set and each other word begins with one of it or is the beginning of one.
// A prefix set leaves no room for such a word exactly if its Kraft's sum is 1.
func IsMaximalPrefix(set []string, letters int) (bool, bool) {
	source := wordsWithLengths(set)
	if !isValid(source, letters) {
		return false, false
	}
	return isPrefixSet(set) && allPartsOf(source, letters) == wholeOf(letters), true
}

// SumsOfPowers returns Kraft's sum to the power k, k in 0..4: that of all lengths of messages of k words.
func SumsOfPowers(set []string, letters int, k int) (Ratio, bool) {
	sum, valid := KraftSum(set, letters)
	if !valid || k < 0 || k > mostPower {
		return Ratio{}, false
	}
	return Ratio{power(sum.Num, k), power(sum.Den, k)}, true
}

// places has for each word of a set, bit by bit, how many of its letters a reader may have read.
type places [MaxSet]uint16

func allPlaces(set []string) places {
	var all places
	for i, s := range set {
		all[i] = 1<<len(s) - 1
	}
	return all
}

// behind returns the places after one more letter; a reader who has read all letters of a word begins any word.
func (now places) behind(set []string, letter byte) places {
	var next places
	ends := false
	for i, s := range set {
		for k := range len(s) {
			if now[i]>>k&1 == 0 || s[k] != letter {
				continue
			}
			if k+1 == len(s) {
				ends = true
			} else {
				next[i] |= 1 << (k + 1)
			}
		}
	}
	if ends {
		for i := range set {
			next[i] |= 1
		}
	}
	return next
}

// firstMissing returns the first word of 1 to most letters that is no part of any written message.
// Of all words that lead to the same places the first one is enough, as the same words are missing behind each of them.
func firstMissing(set []string, letters int, most int) (string, bool) {
	type reader struct {
		read string
		now  places
	}
	level := []reader{{"", allPlaces(set)}}
	seen := map[places]bool{}
	for range most {
		var next []reader
		for _, r := range level {
			for letter := range letters {
				read := r.read + alphabet[letter:letter+1]
				now := r.now.behind(set, alphabet[letter])
				if now == (places{}) {
					return read, true
				}
				if !seen[now] {
					seen[now] = true
					next = append(next, reader{read, now})
				}
			}
		}
		level = next
	}
	return "", false
}

// FirstMissing returns the first word, in the order of words, of 1 to MaxLength letters that is no part of any written message.
func FirstMissing(set []string, letters int) (string, bool) {
	if !isValid(wordsWithLengths(set), letters) {
		return "", false
	}
	return firstMissing(set, letters, MaxLength)
}

// IsCompleteSet reports whether no word at all is missing in this way, for a set whose words have at most 30 letters together.
func IsCompleteSet(set []string, letters int) (bool, bool) {
	if !isValid(wordsWithLengths(set), letters) || len(strings.Join(set, "")) > mostLettersOfCompletion {
		return false, false
	}
	_, isMissing := firstMissing(set, letters, MaxWord)
	return !isMissing, true
}

// fullLengths lists all lists of n lengths in least..most that fill some parts, in lexicographic order.
func fullLengths(n int, least int, most int, letters int, parts int) [][]int {
	if n == 0 && parts == 0 {
		return [][]int{nil}
	}
	var lists [][]int
	for length := least; length <= most; length++ {
		filled := partsOf(length, letters)
		if filled*n < parts {
			break
		}
		if filled > parts {
			continue
		}
		for _, others := range fullLengths(n-1, length, most, letters, parts-filled) {
			lists = append(lists, slices.Concat([]int{length}, others))
		}
	}
	return lists
}

// listsOfSumOne requires a valid number n of lengths.
func listsOfSumOne(n int, most int, letters int) ([][]int, bool) {
	if !areLetters(letters) || !isLength(most) {
		return nil, false
	}
	return fullLengths(n, 1, most, letters, wholeOf(letters)), true
}

// CountLengths returns how many lists of n lengths, n in 0..MaxSet, none greater than most, in 1..MaxLength, have Kraft's sum 1.
func CountLengths(n int, most int, letters int) (int, bool) {
	if n < 0 || n > MaxSet {
		return 0, false
	}
	lists, valid := listsOfSumOne(n, most, letters)
	return len(lists), valid
}

// AllLengths returns all of them, in lexicographic order, n in 0..8.
func AllLengths(n int, most int, letters int) ([][]int, bool) {
	if n < 0 || n > mostLengthsListed {
		return nil, false
	}
	return listsOfSumOne(n, most, letters)
}
