package lists_test

import (
	"slices"
	"strings"
	"testing"

	"copyist/api"
	"copyist/lists"
)

// P7.4: integers by value, strings by their characters.
func TestLess(t *testing.T) {
	d := newDesk(t, 1000)
	for _, l := range [][]api.Word{
		{number(least), number(api.MinInt - 1), number(api.MinInt), number(-2), number(-1), number(0), number(1), number(2), number(10), number(api.MaxInt), number(api.MaxInt + 1), number(most)},
		{d.text(""), d.text("\x00"), d.text("A"), d.text("B"), d.text("a"), d.text("a\x00"), d.text("a "), d.text("aa"), d.text("ab"), d.text("b"), d.text("ba"), d.text("\x7f"), d.text("\u00e4"), d.text("\u20ac"), d.text("\u20ac\u20ac"), d.text("\uffff"), d.text("\U00010000"), d.text("\U0010ffff")},
	} {
		for i, a := range l {
			for j, b := range l {
				if less, err := lists.Less(d.h, a, b); less != (i < j) || err != api.OK {
					t.Errorf("Less(%v, %v) = %t, %v", a, b, less, err)
				}
			}
		}
	}
	if less, err := lists.Less(d.h, d.text("ab"), d.text("ab")); less || err != api.OK {
		t.Error("equal strings:", less, err)
	}
}

// P7.4: words that have no order.
func TestLessErrors(t *testing.T) {
	d := newDesk(t, 100)
	l := []api.Word{null, symbol(1), d.read("(1)"), d.read(`("a")`), d.vector(), d.code(), dead(api.KindText), dead(api.KindCons), {Kind: api.KindPrim}, {Kind: api.KindBuffer}, {Kind: -1}, {Kind: 11}}
	for _, a := range l {
		for _, b := range append(l, number(1), d.text("a")) {
			for _, p := range [][2]api.Word{{a, b}, {b, a}} {
				if less, err := lists.Less(d.h, p[0], p[1]); less || err != api.ErrType {
					t.Errorf("Less(%v, %v) = %t, %v", p[0], p[1], less, err)
				}
			}
		}
	}
	for _, p := range [][2]api.Word{{number(1), d.text("a")}, {d.text("a"), number(1)}} {
		if less, err := lists.Less(d.h, p[0], p[1]); less || err != api.ErrType {
			t.Errorf("Less(%v, %v) = %t, %v", p[0], p[1], less, err)
		}
	}
}

// P7.4: lists in ascending order.
func TestSorted(t *testing.T) {
	d := newDesk(t, 1000)
	for s, want := range map[string]string{
		"nil": "nil", "(1)": "(1)", "(3 1 2)": "(1 2 3)", "(1 2 3)": "(1 2 3)", "(3 2 1)": "(1 2 3)", "(2 1 2 1)": "(1 1 2 2)", "(0 -1 10 9 -10)": "(-10 -1 0 9 10)",
		`("b" "a" "ab")`: `("a" "ab" "b")`, `("")`: `("")`, `("b" "" "B" "a")`: `("" "B" "a" "b")`,
		`(2 "a")`: "error 6", `("a" 2)`: "error 6", "(a)": "error 6", "(1 a)": "error 6", "(1 nil)": "error 6", "(nil)": "error 6", `(1 2 3 "a")`: "error 6", `("a" "b" [])`: "error 6", "((1))": "error 6", `("a" ("b"))`: "error 6",
		"(1 . 2)": "error 6", "5": "error 6",
	} {
		w := d.read(s)
		if got := d.shown(lists.Sorted(d.h, w)); got != want {
			t.Errorf("Sorted(%s) = %s, not %s", s, got, want)
		}
		if got := d.shown(w, api.OK); got != s {
			t.Errorf("%s became %s", s, got)
		}
	}
	for _, w := range []api.Word{dead(api.KindText), dead(api.KindCons), {Kind: -1}, {Kind: api.KindPrim}} {
		for _, l := range [][]api.Word{{w}, {w, w}, {number(1), w}, {d.text("a"), w}} {
			if got := d.shown(lists.Sorted(d.h, d.list(null, l...))); got != "error 6" {
				t.Errorf("Sorted(%v) = %s", l, got)
			}
		}
	}
}

// P7.4: equal elements stay in their order.
func TestSortedStable(t *testing.T) {
	d := newDesk(t, 1000)
	var words []api.Word
	for i := range 200 {
		words = append(words, d.text(strings.Repeat("a", i*7%5)))
	}
	w, err := lists.Sorted(d.h, d.list(null, words...))
	got, err2 := lists.Slice(d.h, w)
	if err != api.OK || err2 != api.OK || len(got) != len(words) {
		t.Fatal(err, err2, len(got))
	}
	var want []api.Word
	for length := range 5 {
		for i, x := range words {
			if i*7%5 == length {
				want = append(want, x)
			}
		}
	}
	if !slices.Equal(got, want) {
		t.Error(got)
	}
}

// P7.4: the error of the list comes before the types of its elements, and these before
// a full heap.
func TestSortedErrors(t *testing.T) {
	d := newDesk(t, 4)
	ring := d.ring(symbol(1), number(1))
	mixed := d.list(null, symbol(1), number(1))
	for w, want := range map[api.Word]string{ring: "error 16", mixed: "error 6", d.cdr(mixed, 1): "error 7", null: "nil"} {
		if got := d.shown(lists.Sorted(d.h, w)); got != want {
			t.Errorf("%v: %s, not %s", w, got, want)
		}
	}
}
