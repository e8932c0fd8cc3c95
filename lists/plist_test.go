package lists_test

import (
	"testing"

	"copyist/api"
	"copyist/lists"
)

// P7.6: the values of keys in property lists.
func TestGet(t *testing.T) {
	d := newDesk(t, 1000)
	for _, c := range [][3]string{
		{"(a 1 b 2)", "a", "1"}, {"(a 1 b 2)", "b", "2"}, {"(a 1 b 2)", "c", ""}, {"(a 1 b 2)", "1", ""}, {"(1 a)", "a", ""}, {"nil", "a", ""}, {"(a)", "a", ""}, {"(a 1 b)", "b", ""}, {"(a 1 a 2)", "a", "1"}, {"(a b b 2)", "b", "2"},
		{"(a nil)", "a", "nil"}, {"(nil 1)", "nil", "1"}, {"(5 (6))", "5", "(6)"}, {`("a" 1)`, `"a"`, ""}, {"(a 1 . 2)", "a", "1"}, {"(a 1 . 2)", "b", ""}, {"(a . 1)", "a", ""}, {"(a 1 b . 2)", "b", ""}, {"a", "a", ""}, {"[a 1]", "a", ""}, {"5", "5", ""},
	} {
		w, is := lists.Get(d.h, d.read(c[0]), d.read(c[1]))
		if is != (c[2] != "") || is && d.shown(w, api.OK) != c[2] || !is && w != (api.Word{}) {
			t.Errorf("Get(%s, %s) = %v, %t, not %s", c[0], c[1], w, is, c[2])
		}
	}
	key := d.text("a")
	if w, is := lists.Get(d.h, d.list(null, key, number(1)), key); w != number(1) || !is {
		t.Error("a string as a key:", w, is)
	}
	if w, is := lists.Get(d.h, d.list(null, dead(api.KindVec), dead(api.KindCons)), dead(api.KindVec)); w != dead(api.KindCons) || !is {
		t.Error("words that are not live:", w, is)
	}
}

// P7.6: circular lists, of which MaxChars elements are examined.
func TestGetInRings(t *testing.T) {
	d := newDesk(t, api.MaxObjects)
	w := d.ring(number(1), number(2), number(3))
	for key, want := range map[int]int{1: 2, 3: 1, 2: 3} {
		if x, is := lists.Get(d.h, w, number(key)); x != number(want) || !is {
			t.Errorf("Get(%d) = %v, %t", key, x, is)
		}
	}
	if x, is := lists.Get(d.h, w, number(4)); x != (api.Word{}) || is {
		t.Error(x, is)
	}
	d.h.Collect(nil)
	// The last of the pairs that are examined has the last element and the first one.
	words := make([]api.Word, api.MaxChars-1)
	words[0], words[1], words[len(words)-1] = number(2), number(3), number(1)
	w = d.ring(words...)
	for key, want := range map[int]api.Word{1: number(2), 2: number(3), 3: {}} {
		if x, is := lists.Get(d.h, w, number(key)); x != want || is != (want != api.Word{}) {
			t.Errorf("Get(%d) = %v, %t", key, x, is)
		}
	}
}

// P7.6: new property lists.
func TestPut(t *testing.T) {
	d := newDesk(t, 1000)
	for _, c := range [][3]string{
		{"(a 1 b 2)", "b", "(a 1 b 5)"}, {"(a 1 b 2)", "a", "(a 5 b 2)"}, {"(a 1 b 2)", "c", "(a 1 b 2 c 5)"}, {"(a 1 b)", "b", "(a 1 b b 5)"}, {"(a 1 b)", "c", "(a 1 b c 5)"}, {"nil", "a", "(a 5)"}, {"(a)", "a", "(a a 5)"}, {"(1 a)", "a", "(1 a a 5)"},
		{"(a 1 a 2)", "a", "(a 5 a 2)"}, {"(a b b 2)", "b", "(a b b 5)"}, {"(nil 1)", "nil", "(nil 5)"}, {`("a" 1)`, `"a"`, `("a" 1 "a" 5)`}, {"(a 1 . 2)", "a", "error 6"}, {"(a . 1)", "a", "error 6"}, {"a", "a", "error 6"},
	} {
		w := d.read(c[0])
		if got := d.shown(lists.Put(d.h, w, d.read(c[1]), number(5))); got != c[2] {
			t.Errorf("Put(%s, %s, 5) = %s, not %s", c[0], c[1], got, c[2])
		}
		if got := d.shown(w, api.OK); got != c[0] {
			t.Errorf("%s became %s", c[0], got)
		}
	}
}

// P7.6: room for as many conses as the new list has.
func TestPutRoom(t *testing.T) {
	d := newDesk(t, 5)
	w := d.list(null, number(1), number(2))
	if got := d.shown(lists.Put(d.h, w, number(2), number(5))); got != "error 7" {
		t.Error("four conses in the place of three:", got)
	}
	if got := d.shown(lists.Put(d.h, w, number(1), number(5))); got != "(1 5)" {
		t.Error(got)
	}
	if got := d.shown(lists.Put(d.h, w, number(1), number(5))); got != "error 7" || d.h.Many() != 4 {
		t.Error(got)
	}
	if got := d.shown(lists.Put(d.h, d.ring(number(1)), number(1), number(5))); got != "error 16" {
		t.Error("a circular list in a full heap:", got)
	}
}
