// Package runes is layer 1: it classifies characters and handles strings of
// characters by index (see shared/doc/01-runes.md).
package runes

import (
	"strings"
	"unicode/utf8"

	"copyist/api"
)

// The surrogates lie inside the range of characters but are none.
const (
	firstSurrogate = 0xd800
	lastSurrogate  = 0xdfff
)

// Valid reports whether s is UTF-8 without surrogates.
func Valid(s string) bool { return utf8.ValidString(s) }

// Len returns the number of characters of s, or 0 if s is not valid.
func Len(s string) int {
	if !Valid(s) {
		return 0
	}
	return utf8.RuneCountInString(s)
}

// At returns the character at index i and whether there is one.
func At(s string, i int) (int, bool) {
	if !Valid(s) {
		return 0, false
	}
	index := 0
	for _, c := range s {
		if index == i {
			return int(c), true
		}
		index++
	}
	return 0, false
}

// Cut returns the characters of s with indexes from from to to-1.
func Cut(s string, from, to int) (string, api.Errno) {
	if !Valid(s) {
		return "", api.ErrForm
	}
	if from < 0 || from > to || to > Len(s) {
		return "", api.ErrRange
	}
	rest := s[offset(s, from):]
	return rest[:offset(rest, to-from)], api.OK
}

// offset returns where in the bytes of s the character at index i begins;
// the index behind the last character is at the end.
func offset(s string, i int) int {
	index := 0
	for at := range s {
		if index == i {
			return at
		}
		index++
	}
	return len(s)
}

// Text returns the string of the characters in l.
func Text(l []int) (string, api.Errno) {
	if len(l) > api.MaxChars {
		return "", api.ErrLong
	}
	var b strings.Builder
	for _, c := range l {
		// Is comes before the conversion: a rune has fewer bits than an int.
		if !Is(c) {
			return "", api.ErrRange
		}
		b.WriteRune(rune(c))
	}
	return b.String(), api.OK
}

// List returns all characters of s.
func List(s string) ([]int, api.Errno) {
	if !Valid(s) {
		return nil, api.ErrForm
	}
	l := make([]int, 0, utf8.RuneCountInString(s))
	for _, c := range s {
		l = append(l, int(c))
	}
	return l, api.OK
}

// Is reports whether c is a character.
func Is(c int) bool {
	return 0 <= c && c <= api.MaxRune && (c < firstSurrogate || c > lastSurrogate)
}
