package runes_test

import (
	"testing"

	"copyist/runes"
)

// The integers for which the tests compare the functions with the chapter's
// text: all the characters, and integers before and behind them.
const (
	lowest  = -1000
	highest = 0x110000 + 1000
)

// extremes lists integers far away from the characters. The low 21 or 32 bits of
// some are those of a letter.
func extremes() []int {
	return []int{-1 << 63, 1<<63 - 1, -1 << 31, 1<<31 - 1, 1<<32 + 'a', -1<<32 + 'A', 1<<21 + 'a', 1<<32 + 0x301, -'a', ^'A'}
}

// within reports whether c is in one of the ranges, each with both of its ends.
func within(c int, ranges ...[2]int) bool {
	for _, r := range ranges {
		if r[0] <= c && c <= r[1] {
			return true
		}
	}
	return false
}

func character(c int) bool {
	return within(c, [2]int{0, 0x10ffff}) && !within(c, [2]int{0xd800, 0xdfff})
}

// width is the chapter's definition of the width.
func width(c int) int {
	switch {
	case !character(c):
		return 0
	case within(c, [2]int{0x300, 0x36f}, [2]int{0x483, 0x489}, [2]int{0x591, 0x5bd}, [2]int{0x200b, 0x200f},
		[2]int{0x20d0, 0x20ff}, [2]int{0xfe00, 0xfe0f}, [2]int{0xfe20, 0xfe2f}):
		return 0
	case within(c, [2]int{0, 8}, [2]int{10, 31}, [2]int{127, 127}, [2]int{0x1100, 0x115f}, [2]int{0x2e80, 0x303e},
		[2]int{0x3041, 0xa4cf}, [2]int{0xac00, 0xd7a3}, [2]int{0xf900, 0xfaff}, [2]int{0xfe30, 0xfe6f},
		[2]int{0xff00, 0xff60}, [2]int{0xffe0, 0xffe6}, [2]int{0x1f300, 0x1f64f}, [2]int{0x1f900, 0x1f9ff},
		[2]int{0x20000, 0x3fffd}):
		return 2
	}
	return 1
}

// upper is the chapter's definition of the upper-case form of a lower-case character.
func upper(c int) (int, bool) {
	switch {
	case c == 0x3c2:
		return 0x3a3, true
	case c == 0xf7:
		return 0, false
	case within(c, [2]int{'a', 'z'}, [2]int{0xe0, 0xfe}, [2]int{0x3b1, 0x3c9}, [2]int{0x430, 0x44f}):
		return c - 32, true
	case within(c, [2]int{0x450, 0x45f}):
		return c - 80, true
	}
	return 0, false
}

// lowers maps each upper-case character to its lower-case form.
func lowers() map[int]int {
	m := map[int]int{}
	for c := lowest; c <= highest; c++ {
		if u, ok := upper(c); ok && c != 0x3c2 {
			m[u] = c
		}
	}
	return m
}

func wordCharacter(c int) bool {
	if c == 0xd7 || c == 0xf7 || c == 0x37e || c == 0x387 {
		return false
	}
	return within(c, [2]int{'0', '9'}, [2]int{'A', 'Z'}, [2]int{'a', 'z'}, [2]int{0xaa, 0xaa}, [2]int{0xb5, 0xb5},
		[2]int{0xba, 0xba}, [2]int{0xc0, 0x24f}, [2]int{0x300, 0x3ff}, [2]int{0x400, 0x52f}, [2]int{0x5d0, 0x5ea},
		[2]int{0x3041, 0x30ff}, [2]int{0x3400, 0x9fff}, [2]int{0xac00, 0xd7a3}, [2]int{0x20000, 0x3fffd})
}

// P1.2: every integer near the characters.
func TestClassesOfAll(t *testing.T) {
	lower := lowers()
	for c := lowest; c <= highest; c++ {
		if runes.Is(c) != character(c) {
			t.Fatalf("Is(%#x) = %v", c, runes.Is(c))
		}
		if runes.Width(c) != width(c) {
			t.Fatalf("Width(%#x) = %d", c, runes.Width(c))
		}
		up, down := c, c
		if u, ok := upper(c); ok {
			up = u
		}
		if d, ok := lower[c]; ok {
			down = d
		}
		fold := up
		if d, ok := lower[up]; ok {
			fold = d
		}
		if runes.Up(c) != up || runes.Down(c) != down || runes.Fold(c) != fold {
			t.Fatalf("Up, Down, Fold of %#x = %#x, %#x, %#x", c, runes.Up(c), runes.Down(c), runes.Fold(c))
		}
		if runes.Word(c) != wordCharacter(c) {
			t.Fatalf("Word(%#x) = %v", c, runes.Word(c))
		}
	}
}

// P1.2: integers that are no characters, far away.
func TestClassesOfExtremes(t *testing.T) {
	for _, c := range extremes() {
		if runes.Is(c) || runes.Width(c) != 0 || runes.Word(c) {
			t.Error("Is, Width, Word of", c, runes.Is(c), runes.Width(c), runes.Word(c))
		}
		if runes.Up(c) != c || runes.Down(c) != c || runes.Fold(c) != c {
			t.Error("Up, Down, Fold of", c, runes.Up(c), runes.Down(c), runes.Fold(c))
		}
	}
}

// P1.2
func TestIs(t *testing.T) {
	for c, want := range map[int]bool{
		-1: false, 0: true, 'a': true, 0xd7ff: true, 0xd800: false, 0xdbff: false, 0xdc00: false, 0xdfff: false,
		0xe000: true, 0xfffe: true, 0xffff: true, 0x10000: true, 0x10ffff: true, 0x110000: false,
	} {
		if runes.Is(c) != want {
			t.Errorf("Is(%#x) = %v", c, runes.Is(c))
		}
	}
}

// P1.2: both ends of each range of width, and what is next to them.
func TestWidth(t *testing.T) {
	for c, want := range map[int]int{
		-1: 0, 0: 2, 8: 2, 9: 1, 10: 2, 31: 2, ' ': 1, 'a': 1, '~': 1, 127: 2, 128: 1,
		0x2ff: 1, 0x300: 0, 0x36f: 0, 0x370: 1, 0x482: 1, 0x483: 0, 0x489: 0, 0x48a: 1,
		0x590: 1, 0x591: 0, 0x5bd: 0, 0x5be: 1, 0x10ff: 1, 0x1100: 2, 0x115f: 2, 0x1160: 1,
		0x200a: 1, 0x200b: 0, 0x200f: 0, 0x2010: 1, 0x20cf: 1, 0x20d0: 0, 0x20ff: 0, 0x2100: 1,
		0x2e7f: 1, 0x2e80: 2, 0x303e: 2, 0x303f: 1, 0x3040: 1, 0x3041: 2, 0xa4cf: 2, 0xa4d0: 1,
		0xabff: 1, 0xac00: 2, 0xd7a3: 2, 0xd7a4: 1, 0xd7ff: 1, 0xd800: 0, 0xdfff: 0, 0xe000: 1,
		0xf8ff: 1, 0xf900: 2, 0xfaff: 2, 0xfb00: 1, 0xfdff: 1, 0xfe00: 0, 0xfe0f: 0, 0xfe10: 1,
		0xfe1f: 1, 0xfe20: 0, 0xfe2f: 0, 0xfe30: 2, 0xfe6f: 2, 0xfe70: 1, 0xfeff: 1, 0xff00: 2,
		0xff60: 2, 0xff61: 1, 0xffdf: 1, 0xffe0: 2, 0xffe6: 2, 0xffe7: 1, 0x1f2ff: 1, 0x1f300: 2,
		0x1f64f: 2, 0x1f650: 1, 0x1f8ff: 1, 0x1f900: 2, 0x1f9ff: 2, 0x1fa00: 1, 0x1ffff: 1, 0x20000: 2,
		0x3fffd: 2, 0x3fffe: 1, 0x10ffff: 1, 0x110000: 0,
	} {
		if runes.Width(c) != want {
			t.Errorf("Width(%#x) = %d", c, runes.Width(c))
		}
	}
}

// P1.2: both ends of each range of case, what is next to them, and the exceptions.
func TestCase(t *testing.T) {
	for _, x := range []struct{ c, up, down, fold int }{
		{'@', '@', '@', '@'}, {'A', 'A', 'a', 'a'}, {'Z', 'Z', 'z', 'z'}, {'[', '[', '[', '['},
		{'`', '`', '`', '`'}, {'a', 'A', 'a', 'a'}, {'z', 'Z', 'z', 'z'}, {'{', '{', '{', '{'},
		{'1', '1', '1', '1'}, {-1, -1, -1, -1}, {0x110000, 0x110000, 0x110000, 0x110000},
		{0xd800, 0xd800, 0xd800, 0xd800}, {0xb5, 0xb5, 0xb5, 0xb5}, {0xbf, 0xbf, 0xbf, 0xbf},
		{0xc0, 0xc0, 0xe0, 0xe0}, {0xd6, 0xd6, 0xf6, 0xf6}, {0xd7, 0xd7, 0xd7, 0xd7}, {0xd8, 0xd8, 0xf8, 0xf8},
		{0xde, 0xde, 0xfe, 0xfe}, {0xdf, 0xdf, 0xdf, 0xdf}, {0xe0, 0xc0, 0xe0, 0xe0}, {0xf6, 0xd6, 0xf6, 0xf6},
		{0xf7, 0xf7, 0xf7, 0xf7}, {0xf8, 0xd8, 0xf8, 0xf8}, {0xfe, 0xde, 0xfe, 0xfe}, {0xff, 0xff, 0xff, 0xff},
		{0x390, 0x390, 0x390, 0x390}, {0x391, 0x391, 0x3b1, 0x3b1}, {0x3a1, 0x3a1, 0x3c1, 0x3c1},
		{0x3a2, 0x3a2, 0x3a2, 0x3a2}, {0x3a3, 0x3a3, 0x3c3, 0x3c3}, {0x3a9, 0x3a9, 0x3c9, 0x3c9},
		{0x3aa, 0x3aa, 0x3aa, 0x3aa}, {0x3b0, 0x3b0, 0x3b0, 0x3b0}, {0x3b1, 0x391, 0x3b1, 0x3b1},
		{0x3c1, 0x3a1, 0x3c1, 0x3c1}, {0x3c2, 0x3a3, 0x3c2, 0x3c3}, {0x3c3, 0x3a3, 0x3c3, 0x3c3},
		{0x3c9, 0x3a9, 0x3c9, 0x3c9}, {0x3ca, 0x3ca, 0x3ca, 0x3ca},
		{0x3ff, 0x3ff, 0x3ff, 0x3ff}, {0x400, 0x400, 0x450, 0x450}, {0x40f, 0x40f, 0x45f, 0x45f},
		{0x410, 0x410, 0x430, 0x430}, {0x42f, 0x42f, 0x44f, 0x44f}, {0x430, 0x410, 0x430, 0x430},
		{0x44f, 0x42f, 0x44f, 0x44f}, {0x450, 0x400, 0x450, 0x450}, {0x45f, 0x40f, 0x45f, 0x45f},
		{0x460, 0x460, 0x460, 0x460},
	} {
		if runes.Up(x.c) != x.up || runes.Down(x.c) != x.down || runes.Fold(x.c) != x.fold {
			t.Errorf("Up, Down, Fold of %#x = %#x, %#x, %#x", x.c, runes.Up(x.c), runes.Down(x.c), runes.Fold(x.c))
		}
	}
}

// P1.2: both ends of each range of word characters, and what is next to them.
func TestWord(t *testing.T) {
	for c, want := range map[int]bool{
		-1: false, 0: false, '/': false, '0': true, '9': true, ':': false, '@': false, 'A': true, 'Z': true, '[': false,
		'_': false, '`': false, 'a': true, 'z': true, '{': false, ' ': false,
		0xa9: false, 0xaa: true, 0xab: false, 0xb4: false, 0xb5: true, 0xb6: false, 0xb9: false, 0xba: true, 0xbb: false,
		0xbf: false, 0xc0: true, 0xd6: true, 0xd7: false, 0xd8: true, 0xf6: true, 0xf7: false, 0xf8: true,
		0x24f: true, 0x250: false, 0x2ff: false, 0x300: true, 0x37d: true, 0x37e: false, 0x37f: true,
		0x386: true, 0x387: false, 0x388: true, 0x3ff: true, 0x400: true, 0x52f: true, 0x530: false,
		0x5cf: false, 0x5d0: true, 0x5ea: true, 0x5eb: false, 0x3040: false, 0x3041: true, 0x30ff: true, 0x3100: false,
		0x33ff: false, 0x3400: true, 0x9fff: true, 0xa000: false, 0xabff: false, 0xac00: true, 0xd7a3: true,
		0xd7a4: false, 0xd800: false, 0xdfff: false, 0x1ffff: false, 0x20000: true, 0x3fffd: true, 0x3fffe: false,
		0x10ffff: false, 0x110000: false,
	} {
		if runes.Word(c) != want {
			t.Errorf("Word(%#x) = %v", c, runes.Word(c))
		}
	}
}
