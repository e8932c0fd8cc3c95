package runes

import "sort"

// span gives one value to all the characters from first to last.
type span struct{ first, last, value int }

// find returns the value of the span that contains c, or other if none does.
// The spans are in ascending order and do not overlap, as the search requires.
func find(spans []span, c, other int) int {
	i := sort.Search(len(spans), func(i int) bool { return c <= spans[i].last })
	if i < len(spans) && spans[i].first <= c {
		return spans[i].value
	}
	return other
}

// Width returns the number of columns that c occupies: 0, 1 or 2.
func Width(c int) int {
	if !Is(c) {
		return 0
	}
	widths := [...]span{
		// Control characters take two columns because they are shown as ^ and a
		// character. A tab (9) is not one of them.
		{0, 8, 2},
		{10, 31, 2},
		{127, 127, 2},
		{0x300, 0x36f, 0},
		{0x483, 0x489, 0},
		{0x591, 0x5bd, 0},
		{0x1100, 0x115f, 2},
		{0x200b, 0x200f, 0},
		{0x20d0, 0x20ff, 0},
		{0x2e80, 0x303e, 2},
		{0x3041, 0xa4cf, 2},
		{0xac00, 0xd7a3, 2},
		{0xf900, 0xfaff, 2},
		{0xfe00, 0xfe0f, 0},
		{0xfe20, 0xfe2f, 0},
		{0xfe30, 0xfe6f, 2},
		{0xff00, 0xff60, 2},
		{0xffe0, 0xffe6, 2},
		{0x1f300, 0x1f64f, 2},
		{0x1f900, 0x1f9ff, 2},
		{0x20000, 0x3fffd, 2},
	}
	return find(widths[:], c, 1)
}

// Up returns the upper-case form of c, or c if it is not lower case.
func Up(c int) int {
	steps := [...]span{
		{'a', 'z', -32},
		{0xe0, 0xf6, -32},
		{0xf8, 0xfe, -32},
		{0x3b1, 0x3c1, -32},
		// The final sigma shares its upper-case form with the sigma behind it.
		{0x3c2, 0x3c2, -31},
		{0x3c3, 0x3c9, -32},
		{0x430, 0x44f, -32},
		{0x450, 0x45f, -80},
	}
	return c + find(steps[:], c, 0)
}

// Down returns the lower-case form of c, or c if it is not upper case.
func Down(c int) int {
	steps := [...]span{
		{'A', 'Z', 32},
		{0xc0, 0xd6, 32},
		{0xd8, 0xde, 32},
		// Nothing has 0x3a2 as its upper-case form: the final sigma's is 0x3a3.
		{0x391, 0x3a1, 32},
		{0x3a3, 0x3a9, 32},
		{0x400, 0x40f, 80},
		{0x410, 0x42f, 32},
	}
	return c + find(steps[:], c, 0)
}

// Fold returns one form for all cases of c. It goes through the upper case
// because only that is the same for both sigmas.
func Fold(c int) int { return Down(Up(c)) }

// Word reports whether c is a word character.
func Word(c int) bool {
	words := [...]span{
		{'0', '9', 1},
		{'A', 'Z', 1},
		{'a', 'z', 1},
		{0xaa, 0xaa, 1},
		{0xb5, 0xb5, 1},
		{0xba, 0xba, 1},
		{0xc0, 0xd6, 1},
		{0xd8, 0xf6, 1},
		{0xf8, 0x24f, 1},
		{0x300, 0x37d, 1},
		{0x37f, 0x386, 1},
		{0x388, 0x3ff, 1},
		{0x400, 0x52f, 1},
		{0x5d0, 0x5ea, 1},
		{0x3041, 0x30ff, 1},
		{0x3400, 0x9fff, 1},
		{0xac00, 0xd7a3, 1},
		{0x20000, 0x3fffd, 1},
	}
	return find(words[:], c, 0) == 1
}
