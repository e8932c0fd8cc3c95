package lists_test

import (
	"slices"
	"strings"
	"testing"

	"copyist/api"
	"copyist/lists"
)

// prime is the modulus of the chapter.
const prime = 1<<31 - 1

// hashes checks the hash of a word.
func (d desk) hashes(w api.Word, want int) {
	d.t.Helper()
	if got, err := lists.Hash(d.h, w); got != want || err != api.OK {
		d.t.Errorf("Hash(%v) = %d, %v, not %d", w, got, err, want)
	}
}

// P7.5: words without contents, also dead ones, by their kinds and numbers.
func TestHashOfAtoms(t *testing.T) {
	d := newDesk(t, 10)
	for w, want := range map[api.Word]int{
		number(0): 0, number(5): 5, number(-1): prime - 1, number(prime): 0, number(prime - 1): prime - 1, number(prime + 1): 1, number(-prime): 0, number(-prime - 1): prime - 1, number(2*prime + 7): 7, number(-2*prime - 7): prime - 7,
		number(most): 1, number(least): prime - 2, number(api.MaxInt): 1<<30 - 1, number(api.MinInt): prime - 1<<30,
		null: 31, symbol(1): 32, symbol(prime - 31): 0, symbol(-31): 0, symbol(-32): prime - 1,
		{Kind: api.KindPrim, N: 3}: 158, {Kind: api.KindWindow, N: 1}: 311, {Kind: api.KindBuffer}: 217,
		{Kind: api.KindCons, N: 9}: 71, {Kind: api.KindText, N: 9}: 102, {Kind: api.KindVec, N: 9}: 133, {Kind: api.KindCode, N: 9}: 195, {Kind: api.KindCons, N: -1}: 61,
		{Kind: -1}: prime - 31, {Kind: -1, N: 31}: 0, {Kind: 12, N: 1}: 373, {Kind: prime}: 0, {Kind: prime + 1, N: -31}: 0, {Kind: most}: 31, {Kind: least}: prime - 62, {Kind: prime - 1, N: prime - 1}: prime - 32,
	} {
		d.hashes(w, want)
	}
	d.hashes(d.code(), 31*api.KindCode)
	d.hashes(d.code(), 31*api.KindCode+1)
}

// folded returns a hash that begins with start and goes on with each of l.
func folded(start int, l ...int) int {
	for _, n := range l {
		start = (start*31 + n) % prime
	}
	return start
}

// P7.5: conses, strings and vectors, by their contents.
func TestHash(t *testing.T) {
	d := newDesk(t, 1000)
	for s, want := range map[string]int{
		`""`: 3, `"a"`: 190, `"ab"`: 190*31 + 98, "\"\u20ac\"": 93 + 0x20ac, "\"\U0010ffff\"": 93 + 0x10ffff,
		"(5)": 36, "(5 6)": 36*31 + 6, "(5 . 6)": 36, "(5 6 . 7)": 36*31 + 6, "(nil)": 62, `("a")`: 221, "((5))": 67, "(-1)": 30, "((-1) 1)": folded(1, 30, 1), "([])": 33, "(5 . [6])": 36,
		"[]": 2, "[5]": 67, "[5 6]": 67*31 + 6, "[(5)]": 98, "[[]]": 64, `["a" nil]`: folded(2, 190, 31), "(-1 -1)": folded(1, -1, -1+prime),
		"(1 2 3 4 5 6 7 8 9 10)": folded(1, 1, 2, 3, 4, 5, 6, 7, 8, 9, 10), `"abcdefghijkl"`: folded(3, 97, 98, 99, 100, 101, 102, 103, 104, 105, 106, 107, 108),
	} {
		d.hashes(d.read(s), want)
	}
	d.hashes(d.list(dead(api.KindCons), number(5)), 36)
	d.hashes(d.ring(number(5)), folded(1, slices.Repeat([]int{5}, 100)...))
	d.hashes(d.ring(number(5), number(6)), folded(1, slices.Repeat([]int{5, 6}, 50)...))
}

// P7.5: 100 conses and elements, but all characters.
func TestHashOfLongWords(t *testing.T) {
	d := newDesk(t, 100000/2)
	for _, n := range []int{99, 100, 101, 5000} {
		words, nums := slices.Repeat([]api.Word{number(7)}, n), slices.Repeat([]int{7}, min(n, 100))
		d.hashes(d.list(null, words...), folded(1, nums...))
		d.hashes(d.list(number(1), words...), folded(1, nums...))
		d.hashes(d.vector(words...), folded(2, nums...))
		d.hashes(d.text(strings.Repeat("a", n)), folded(3, slices.Repeat([]int{97}, n)...))
	}
	d.hashes(d.text(strings.Repeat("\u20ac", api.MaxChars)), folded(3, slices.Repeat([]int{0x20ac}, api.MaxChars)...))
}

// P7.5: a word that is nested within ten others, and within eleven.
func TestHashOfNestedWords(t *testing.T) {
	d := newDesk(t, 1000)
	for depth := range 15 {
		inner := 5
		if depth > 10 {
			inner = 1
		}
		vector, list, both := number(5), number(5), number(5)
		for level := range depth {
			vector, list = d.vector(vector), d.list(null, list)
			both = d.list(null, both)
			if level%2 == 1 {
				both = d.vector(d.created(d.h.Car(both)))
			}
		}
		v, l, b := inner, inner, inner
		// The words that are nested within more than ten others count as 1.
		for level := range min(depth, 11) {
			v, l = 62+v, 31+l
			if (level+max(0, depth-11))%2 == 1 {
				b = 62 + b
			} else {
				b = 31 + b
			}
		}
		d.hashes(vector, v)
		d.hashes(list, l)
		d.hashes(both, b)
	}
	w := d.ring(null)
	if err := d.h.SetCar(w, w); err != api.OK {
		t.Fatal(err)
	}
	if _, err := lists.Hash(d.h, w); err != api.OK {
		t.Error(err)
	}
}

// P7.5: the thousandth word that is visited, and those behind it.
func TestHashOfManyWords(t *testing.T) {
	d := newDesk(t, 1000)
	// Ten lists of 99 elements are a thousand words, with the vector of them 1001.
	list := d.list(null, slices.Repeat([]api.Word{number(7)}, 99)...)
	sum := folded(1, slices.Repeat([]int{7}, 99)...)
	cut := folded(1, append(slices.Repeat([]int{7}, 98), 1)...)
	ten := slices.Repeat([]int{sum}, 10)
	d.hashes(d.vector(slices.Repeat([]api.Word{list}, 10)...), folded(2, append(ten[1:], cut)...))
	d.hashes(d.vector(slices.Repeat([]api.Word{list}, 12)...), folded(2, append(slices.Clone(ten[1:]), cut, 1, 1)...))
	d.hashes(d.vector(append(slices.Repeat([]api.Word{list}, 10), number(9), d.text("a"))...), folded(2, append(slices.Clone(ten[1:]), cut, 1, 1)...))
	short := d.list(null, slices.Repeat([]api.Word{number(7)}, 98)...)
	d.hashes(d.vector(append(slices.Repeat([]api.Word{list}, 9), short, number(9))...), folded(2, append(slices.Clone(ten[1:]), folded(1, slices.Repeat([]int{7}, 98)...), 1)...))
	tiny := d.list(null, slices.Repeat([]api.Word{number(7)}, 97)...)
	d.hashes(d.vector(append(slices.Repeat([]api.Word{list}, 9), tiny, number(9), number(9))...), folded(2, append(slices.Clone(ten[1:]), folded(1, slices.Repeat([]int{7}, 97)...), 9, 1)...))
}

// P7.5: words that are not hashed because they are too deep are visited as well; what
// they contain is not.
func TestHashVisitsDeepWords(t *testing.T) {
	d := newDesk(t, 1000)
	inner := d.vector(slices.Repeat([]api.Word{d.vector(number(7), number(7))}, 90)...)
	nest := inner
	sum := folded(2, slices.Repeat([]int{1}, 90)...)
	for range 10 {
		nest = d.vector(nest)
		sum = 62 + sum
	}
	d.hashes(nest, sum)
	// A vector of these is a level more: its elements are 11 words each, of which the
	// last one is too deep.
	outer := d.vector(append(slices.Repeat([]api.Word{nest}, 90), slices.Repeat([]api.Word{number(9)}, 10)...)...)
	each := 1
	for range 10 {
		each = 62 + each
	}
	l := append(slices.Repeat([]int{each}, 90), slices.Repeat([]int{9}, 9)...)
	d.hashes(outer, folded(2, append(l, 1)...))
}
