package runes_test

import (
	"slices"
	"testing"

	"copyist/api"
	"copyist/runes"
)

// all returns all characters in ascending order.
func all() []int {
	var l []int
	for c := range 0x110000 {
		if c < 0xd800 || c > 0xdfff {
			l = append(l, c)
		}
	}
	return l
}

// P1.3: a valid string survives List and Text. The characters are taken in
// strings of MaxChars, the most that Text accepts.
func TestTextOfList(t *testing.T) {
	for part := range slices.Chunk(all(), api.MaxChars) {
		s, e := runes.Text(part)
		if e != api.OK || !runes.Valid(s) || runes.Len(s) != len(part) {
			t.Fatalf("Text from %#x on: %v", part[0], e)
		}
		l, e := runes.List(s)
		if e != api.OK || !slices.Equal(l, part) {
			t.Fatalf("List of the string from %#x on: %v", part[0], e)
		}
		again, e := runes.Text(l)
		if e != api.OK || again != s {
			t.Fatalf("Text(List) of the string from %#x on: %v", part[0], e)
		}
	}
	for _, x := range samples() {
		l, _ := runes.List(x.text)
		if s, e := runes.Text(l); e != api.OK || s != x.text {
			t.Errorf("Text(List(%q)) = %q, %v", x.text, s, e)
		}
	}
}

// P1.3: the parts of a string that is cut at two places make up the string.
func TestPartsOfCut(t *testing.T) {
	for _, x := range samples() {
		n := runes.Len(x.text)
		for i := range n + 1 {
			for j := i; j <= n; j++ {
				a, e1 := runes.Cut(x.text, 0, i)
				b, e2 := runes.Cut(x.text, i, j)
				c, e3 := runes.Cut(x.text, j, n)
				if e1 != api.OK || e2 != api.OK || e3 != api.OK || a+b+c != x.text {
					t.Errorf("%q cut at %d and %d: %q, %q, %q", x.text, i, j, a, b, c)
				}
				if runes.Len(a) != i || runes.Len(b) != j-i || runes.Len(c) != n-j {
					t.Errorf("%q cut at %d and %d: lengths %d, %d, %d", x.text, i, j, runes.Len(a), runes.Len(b), runes.Len(c))
				}
			}
		}
	}
}

// P1.3
func TestCaseTheorems(t *testing.T) {
	check := func(c int) {
		up, down, fold := runes.Up(c), runes.Down(c), runes.Fold(c)
		if runes.Up(up) != up || runes.Down(down) != down || runes.Fold(fold) != fold {
			t.Errorf("not idempotent for %#x: Up %#x, Down %#x, Fold %#x", c, up, down, fold)
		}
		if runes.Fold(up) != fold || runes.Fold(down) != fold {
			t.Errorf("Up and Down of %#x have the folds %#x and %#x, itself %#x", c, runes.Fold(up), runes.Fold(down), fold)
		}
		if runes.Is(c) != runes.Is(up) || runes.Is(c) != runes.Is(down) {
			t.Errorf("a form of %#x is no character, or only it is one", c)
		}
	}
	for c := lowest; c <= highest; c++ {
		check(c)
	}
	for _, c := range extremes() {
		check(c)
	}
}
