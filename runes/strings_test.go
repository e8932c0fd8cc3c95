package runes_test

import (
	"slices"
	"strings"
	"testing"

	"copyist/api"
	"copyist/runes"
)

// sample is a valid string with characters of 1 to 4 bytes, and what it consists of.
type sample struct {
	text  string
	chars []int
}

func samples() []sample {
	return []sample{
		{"", nil},
		{"a", []int{'a'}},
		{"abc", []int{'a', 'b', 'c'}},
		{"a\u00e9", []int{'a', 0xe9}},
		{"\x00\n\t\x7f", []int{0, 10, 9, 127}},
		{"a\u20acc\U0001f600", []int{'a', 0x20ac, 'c', 0x1f600}},
		{"\u0080\u07ff\u0800\uffff\U00010000\U0010ffff", []int{0x80, 0x7ff, 0x800, 0xffff, 0x10000, 0x10ffff}},
		{"\ud7ff\ue000", []int{0xd7ff, 0xe000}},
		{"\ufffd", []int{0xfffd}},
		{"e\u0301", []int{'e', 0x301}},
	}
}

// invalid lists strings that are no UTF-8 of characters in their shortest forms.
func invalid() map[string]string {
	return map[string]string{
		"byte 0xff":                  "\xff",
		"byte 0xff behind text":      "abc\xff",
		"byte 0xff before text":      "\xffabc",
		"lone continuation":          "a\x80b",
		"two bytes, cut":             "\xc3",
		"three bytes, cut":           "\xe2\x82",
		"four bytes, cut":            "\xf0\x9f\x98",
		"cut before text":            "\xe2\x82a",
		"first surrogate":            "\xed\xa0\x80",
		"last high surrogate":        "\xed\xaf\xbf",
		"first low surrogate":        "\xed\xb0\x80",
		"last surrogate":             "\xed\xbf\xbf",
		"pair of surrogates":         "\xed\xa0\xbd\xed\xb8\x80",
		"0 in two bytes":             "\xc0\x80",
		"0x7f in two bytes":          "\xc1\xbf",
		"0x7ff in three bytes":       "\xe0\x9f\xbf",
		"0xffff in four bytes":       "\xf0\x8f\xbf\xbf",
		"0x110000":                   "\xf4\x90\x80\x80",
		"0x1fffff":                   "\xf7\xbf\xbf\xbf",
		"five bytes":                 "\xf8\x88\x80\x80\x80",
		"bad second byte":            "\xc3(",
		"valid, then cut at the end": "\u20ac\xe2",
	}
}

// P1.1
func TestValid(t *testing.T) {
	for _, x := range samples() {
		if !runes.Valid(x.text) {
			t.Errorf("Valid(%q) = false", x.text)
		}
	}
	for name, s := range invalid() {
		if runes.Valid(s) {
			t.Errorf("%s: Valid(%q) = true", name, s)
		}
	}
}

// P1.1
func TestLen(t *testing.T) {
	for _, x := range samples() {
		if n := runes.Len(x.text); n != len(x.chars) {
			t.Errorf("Len(%q) = %d, not %d", x.text, n, len(x.chars))
		}
	}
	for name, s := range invalid() {
		if n := runes.Len(s); n != 0 {
			t.Errorf("%s: Len(%q) = %d", name, s, n)
		}
	}
	// Only Text has a maximum.
	if n := runes.Len(strings.Repeat("\u00e9", api.MaxChars+1)); n != api.MaxChars+1 {
		t.Error("more than MaxChars characters:", n)
	}
}

// P1.1
func TestAt(t *testing.T) {
	for _, x := range samples() {
		for i, want := range x.chars {
			if c, ok := runes.At(x.text, i); !ok || c != want {
				t.Errorf("At(%q, %d) = %#x, %v", x.text, i, c, ok)
			}
		}
		n := len(x.chars)
		for _, i := range []int{-1, n, n + 1, -1 << 63, 1<<63 - 1} {
			if c, ok := runes.At(x.text, i); ok || c != 0 {
				t.Errorf("At(%q, %d) = %#x, %v", x.text, i, c, ok)
			}
		}
	}
	for name, s := range invalid() {
		for i := -1; i <= 3; i++ {
			if c, ok := runes.At(s, i); ok || c != 0 {
				t.Errorf("%s: At(%q, %d) = %#x, %v", name, s, i, c, ok)
			}
		}
	}
}

// P1.1
func TestCut(t *testing.T) {
	for _, x := range samples() {
		for from := range len(x.chars) + 1 {
			for to := from; to <= len(x.chars); to++ {
				want := ""
				for _, c := range x.chars[from:to] {
					want += string(rune(c))
				}
				if s, e := runes.Cut(x.text, from, to); e != api.OK || s != want {
					t.Errorf("Cut(%q, %d, %d) = %q, %v", x.text, from, to, s, e)
				}
			}
		}
	}
}

// P1.1
func TestCutErrors(t *testing.T) {
	const least, most = -1 << 63, 1<<63 - 1
	// The string has more bytes than characters, so that the two cannot be confused.
	for _, x := range [][2]int{{2, 1}, {-1, 1}, {-1, -1}, {0, -1}, {1, 4}, {4, 4}, {3, 5}, {0, 5}, {3, 2}, {least, 0}, {0, most}, {most, least}, {least, most}, {most, most}} {
		if s, e := runes.Cut("a\u20acc", x[0], x[1]); e != api.ErrRange || s != "" {
			t.Errorf("Cut of %v = %q, %v", x, s, e)
		}
	}
	for _, x := range [][2]int{{0, 1}, {1, 0}, {-1, 0}} {
		if s, e := runes.Cut("", x[0], x[1]); e != api.ErrRange || s != "" {
			t.Errorf("Cut of %v in an empty string = %q, %v", x, s, e)
		}
	}
	for name, s := range invalid() {
		// The string is checked before the indexes.
		for _, x := range [][2]int{{0, 0}, {0, 1}, {9, 0}, {-1, 99}} {
			if got, e := runes.Cut(s, x[0], x[1]); e != api.ErrForm || got != "" {
				t.Errorf("%s: Cut(%q) of %v = %q, %v", name, s, x, got, e)
			}
		}
	}
}

// P1.1
func TestList(t *testing.T) {
	for _, x := range samples() {
		if l, e := runes.List(x.text); e != api.OK || !slices.Equal(l, x.chars) {
			t.Errorf("List(%q) = %v, %v", x.text, l, e)
		}
	}
	for name, s := range invalid() {
		if l, e := runes.List(s); e != api.ErrForm || len(l) != 0 {
			t.Errorf("%s: List(%q) = %v, %v", name, s, l, e)
		}
	}
	l, e := runes.List(strings.Repeat("\u00e9", api.MaxChars+1))
	if e != api.OK || len(l) != api.MaxChars+1 || l[api.MaxChars] != 0xe9 {
		t.Error("more than MaxChars characters:", len(l), e)
	}
}

// P1.1
func TestText(t *testing.T) {
	for _, x := range samples() {
		before := slices.Clone(x.chars)
		if s, e := runes.Text(x.chars); e != api.OK || s != x.text {
			t.Errorf("Text(%v) = %q, %v", x.chars, s, e)
		}
		if !slices.Equal(before, x.chars) {
			t.Errorf("Text changed its argument %v to %v", before, x.chars)
		}
	}
	if s, e := runes.Text([]int{}); e != api.OK || s != "" {
		t.Errorf("Text of an empty list = %q, %v", s, e)
	}
}

// P1.1
func TestTextOfNoCharacters(t *testing.T) {
	for _, c := range []int{-1, 0xd800, 0xdbff, 0xdc00, 0xdfff, 0x110000, 1<<32 + 'a', -1<<32 + 'a', -1 << 63, 1<<63 - 1} {
		for _, l := range [][]int{{c}, {c, 'a'}, {'a', c}, {'a', c, 'b'}} {
			if s, e := runes.Text(l); e != api.ErrRange || s != "" {
				t.Errorf("Text(%v) = %q, %v", l, s, e)
			}
		}
	}
}

// P1.1
func TestTextLength(t *testing.T) {
	l := make([]int, api.MaxChars+1)
	for i := range l {
		l[i] = 0x10ffff
	}
	if s, e := runes.Text(l[:api.MaxChars]); e != api.OK || s != strings.Repeat("\U0010ffff", api.MaxChars) {
		t.Error("MaxChars characters:", len(s), e)
	}
	if s, e := runes.Text(l); e != api.ErrLong || s != "" {
		t.Error("MaxChars+1 characters:", len(s), e)
	}
	l[0] = -1
	if s, e := runes.Text(l); e != api.ErrLong || s != "" {
		t.Error("the length is checked before the characters:", len(s), e)
	}
	if s, e := runes.Text(l[:api.MaxChars]); e != api.ErrRange || s != "" {
		t.Error("MaxChars elements, one of them no character:", len(s), e)
	}
}
