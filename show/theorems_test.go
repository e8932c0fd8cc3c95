package show_test

import (
	"slices"
	"strings"
	"testing"

	"copyist/api"
	"copyist/heap"
	"copyist/read"
	"copyist/show"
)

// P6.1: random words, with and without errors, have the texts that the chapter says.
func TestAuthor(t *testing.T) {
	for seed := range 4000 {
		a := newAuthor(t, seed)
		a.escape, a.strange, a.broken = seed%2 == 0, seed%3 == 0, seed%5 == 0
		w, steps := a.form(5)
		want, reason := copyOut(steps)
		if got, err := text(a.desk, w, a.escape); got != want || err != reason {
			t.Fatalf("seed %d: %q, %v, not %q, %v", seed, got, err, want, reason)
		}
		l, steps := a.parts(3)
		want, reason = copyOut(steps)
		if got, err := show.All(a.h, a.n, l, a.escape); got != want || err != reason {
			t.Fatalf("seed %d: %q, %v, not %q, %v", seed, got, err, want, reason)
		}
	}
}

// equal reports whether two words of a heap are the same, or have equal parts.
func equal(h *heap.Heap, x, y api.Word) bool {
	if x == y || x.Kind != y.Kind {
		return x == y
	}
	switch x.Kind {
	case api.KindText:
		a, _ := h.TextOf(x)
		b, _ := h.TextOf(y)
		return a == b
	case api.KindVec:
		a, _ := h.VecOf(x)
		b, _ := h.VecOf(y)
		return slices.EqualFunc(a, b, func(x, y api.Word) bool { return equal(h, x, y) })
	case api.KindCons:
		a, _ := h.Car(x)
		b, _ := h.Car(y)
		c, _ := h.Cdr(x)
		d, _ := h.Cdr(y)
		return equal(h, a, b) && equal(h, c, d)
	}
	return false
}

// rereads checks that the escaped text of w is read as an equal word, all of it, and
// that this word has the same text.
func (d desk) rereads(w api.Word) {
	d.t.Helper()
	s, err := text(d, w, true)
	if err != api.OK {
		d.t.Fatalf("%v has no text: %v", w, err)
	}
	again, end, f := read.Read(d.h, d.n, s, 0)
	if f != (api.Fault{}) || end != len([]rune(s)) || !equal(d.h, w, again) {
		d.t.Fatalf("%q is read as %v, end %d, %v", s, again, end, f)
	}
	if (w.Kind == api.KindInt || w.Kind == api.KindSym) && again != w {
		d.t.Fatalf("%q is read as %v, not %v", s, again, w)
	}
	if got, err := text(d, again, true); got != s || err != api.OK {
		d.t.Fatalf("%q has the text %q, %v", s, got, err)
	}
}

// P6.2: escaped texts are read as equal words (P2).
func TestReread(t *testing.T) {
	for seed := range 3000 {
		a := newAuthor(t, seed)
		w, _ := a.form(5)
		a.rereads(w)
		l, _ := a.parts(3)
		s, err := show.All(a.h, a.n, l, true)
		again, f := read.All(a.h, a.n, s)
		if err != api.OK || f != (api.Fault{}) || !equal(a.h, a.vector(l...), a.vector(again...)) {
			t.Fatalf("seed %d: %q, %v is read as %v, %v", seed, s, err, again, f)
		}
	}
}

// P6.2: names of one, two and three characters of all sorts, and the greatest words.
func TestRereadNames(t *testing.T) {
	d := newDesk(t, 1000)
	chars := []string{"", "a", "1", "+", "-", ".", "?", "#", "@", " ", "\n", "\\", "(", "]", "\"", "'", "`", ",", ";", "\u20ac", "\x00"}
	for _, x := range chars {
		for _, y := range chars {
			for _, z := range chars {
				d.rereads(d.intern(x + y + z))
				if z == "" {
					d.rereads(d.vector(d.text(x+y), d.list(symbol(api.SymComma), d.intern(x+y)), d.cons(d.intern(x+y), d.intern(x+y))))
				}
			}
		}
		d.h.Collect(nil)
	}
	for _, n := range []int{api.MinInt, api.MaxInt, 0, -1} {
		d.rereads(number(n))
	}
	d.rereads(d.intern(strings.Repeat("(", api.MaxName)))
	d.rereads(d.intern(strings.Repeat("1", api.MaxName)))
	d.rereads(d.text(strings.Repeat("\\", api.MaxChars/2-1)))
	d.rereads(d.nested(number(1), api.MaxNest))
}

// state describes what a heap and a table contain, by their numbers.
func (d desk) state() []api.Word {
	l := []api.Word{number(d.h.Many()), number(d.h.Room()), number(d.n.Many())}
	for n := range d.h.Limit() {
		w := api.Word{Kind: api.KindCons, N: n}
		a, _ := d.h.Car(w)
		b, _ := d.h.Cdr(w)
		v, _ := d.h.VecOf(api.Word{Kind: api.KindVec, N: n})
		l = append(append(l, a, b), v...)
	}
	return l
}

// P6.1: a text changes nothing, neither does an error, and the words are not changed.
func TestNoEffect(t *testing.T) {
	for seed := range 200 {
		a := newAuthor(t, seed)
		a.strange, a.broken = true, seed%2 == 0
		l, _ := a.parts(4)
		before, words := a.state(), slices.Clone(l)
		for _, escape := range []bool{true, false} {
			first, err := show.All(a.h, a.n, l, escape)
			again, reason := show.All(a.h, a.n, l, escape)
			if first != again || err != reason {
				t.Errorf("seed %d: %q, %v, then %q, %v", seed, first, err, again, reason)
			}
			for _, w := range l {
				text(a.desk, w, escape)
			}
		}
		if !slices.Equal(a.state(), before) || !slices.Equal(l, words) {
			t.Errorf("seed %d: a call has an effect", seed)
		}
	}
}
