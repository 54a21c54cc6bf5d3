package impl

type Ratio struct {
	Num int
	Den int
}

// KraftSum returns Kraft's sum of a set.
func KraftSum(set []string, letters int) (Ratio, bool) { return Ratio{}, false }

// SumOfLengths returns Kraft's sum of lengths.
func SumOfLengths(lengths []int, letters int) (Ratio, bool) { return Ratio{}, false }

// CanBePrefix reports whether lengths are those of some prefix set.
func CanBePrefix(lengths []int, letters int) (bool, bool) { return false, false }

// FirstPrefixCode returns the prefix set with given lengths that is made so:
func FirstPrefixCode(lengths []int, letters int) ([]string, bool) { return nil, false }

// RoomLeft returns how many words of a length, in 1..MaxLength, none of which begins with one of a prefix set with these lengths, there still are:
func RoomLeft(lengths []int, letters int, length int) (int, bool) { return 0, false }

// IsPrefixSet reports whether no word of a set begins with another one.
func IsPrefixSet(set []string) (bool, bool) { return false, false }

// IsSuffixSet reports whether no word of a set ends with another one.
func IsSuffixSet(set []string) (bool, bool) { return false, false }

// FillPrefix returns the prefix set with a given one and all words that are put to it so:
func FillPrefix(set []string, letters int) ([]string, bool) { return nil, false }

// IsMaximalPrefix reports whether a set is a prefix set and each other word begins with one of it or is the beginning of one.
func IsMaximalPrefix(set []string, letters int) (bool, bool) { return false, false }

// SumsOfPowers returns Kraft's sum to the power k, k in 0..4:
func SumsOfPowers(set []string, letters int, k int) (Ratio, bool) { return Ratio{}, false }

// FirstMissing returns the first word, in the order of words, of at most MaxLength letters that is no part of any written message.
func FirstMissing(set []string, letters int) (string, bool) { return "", false }

// IsCompleteSet reports whether no word at all is missing in this way.
func IsCompleteSet(set []string, letters int) (bool, bool) { return false, false }

// CountLengths returns how many lists of n lengths, n in 0..MaxSet, none greater than most, in 1..MaxLength, have Kraft's sum 1.
func CountLengths(n int, most int, letters int) (int, bool) { return 0, false }

// AllLengths returns all of them, in lexicographic order, n in 0..8.
func AllLengths(n int, most int, letters int) ([][]int, bool) { return nil, false }
