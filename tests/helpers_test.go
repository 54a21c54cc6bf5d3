package tests

import (
	"slices"
	"strings"
	"testing"
)

// list splits a text at its blanks; the empty text gives the empty list.
func list(text string) []string {
	return strings.Fields(text)
}

// wordsUpTo lists all words of 0..n letters of an alphabet, in the order of words.
func wordsUpTo(alphabet string, n int) []string {
	words := []string{""}
	level := words
	for range n {
		var next []string
		for _, s := range level {
			for _, letter := range alphabet {
				next = append(next, s+string(letter))
			}
		}
		words = append(words, next...)
		level = next
	}
	return words
}

// subsets lists all lists that are made of words in their order.
func subsets(words []string) [][]string {
	all := [][]string{nil}
	for _, s := range words {
		for _, l := range all[:len(all):len(all)] {
			all = append(all, append(slices.Clone(l), s))
		}
	}
	return all
}

func wantList[T comparable](t *testing.T, call string, got []T, ok bool, want []T) {
	t.Helper()
	if !ok || !slices.Equal(got, want) {
		t.Errorf("%s = %v, %v; want %v, true", call, got, ok, want)
	}
}

func wantNoList[T any](t *testing.T, call string, got []T, ok bool) {
	t.Helper()
	if ok || len(got) != 0 {
		t.Errorf("%s = %v, %v; want nothing, false", call, got, ok)
	}
}

func wantValue[T comparable](t *testing.T, call string, got T, ok bool, want T) {
	t.Helper()
	if !ok || got != want {
		t.Errorf("%s = %v, %v; want %v, true", call, got, ok, want)
	}
}

func wantNoValue[T comparable](t *testing.T, call string, got T, ok bool) {
	t.Helper()
	var zero T
	if ok || got != zero {
		t.Errorf("%s = %v, %v; want %v, false", call, got, ok, zero)
	}
}
