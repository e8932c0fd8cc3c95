package read_test

import (
	"slices"
	"testing"

	"copyist/read"
)

// P5.2
func TestClasses(t *testing.T) {
	blanks := []int{9, 10, 12, 13, 32}
	delimiters := append([]int{'(', ')', '[', ']', '"', '\'', '`', ',', ';'}, blanks...)
	check := func(c int) {
		if read.Blank(c) != slices.Contains(blanks, c) {
			t.Errorf("Blank(%d) = %v", c, read.Blank(c))
		}
		if read.Delimiter(c) != slices.Contains(delimiters, c) {
			t.Errorf("Delimiter(%d) = %v", c, read.Delimiter(c))
		}
	}
	for c := -1000; c < 70000; c++ {
		check(c)
	}
	for _, c := range delimiters {
		// The low bits are those of a delimiter.
		for _, far := range []int{c + 1<<8, c + 1<<16, c + 1<<21, c + 1<<32, c - 1<<32, c + least, -c} {
			check(far)
		}
	}
	for _, c := range []int{0xa0, 0x2028, 0x3000, 0xfeff, 0x10ffff, least, most} {
		check(c)
	}
}
