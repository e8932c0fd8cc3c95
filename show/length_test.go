package show_test

import (
	"slices"
	"strings"
	"testing"

	"copyist/api"
	"copyist/show"
)

// text returns a text of w.
func text(d desk, w api.Word, escape bool) (string, api.Errno) {
	return show.Text(d.h, d.n, w, escape)
}

// fits checks that w has an escaped text of MaxChars characters.
func (d desk) fits(w api.Word) {
	d.t.Helper()
	s, err := text(d, w, true)
	if n := len([]rune(s)); err != api.OK || n != api.MaxChars {
		d.t.Errorf("%v: %d characters, %v", w, n, err)
	}
}

// overflows checks that the escaped text of w is too long.
func (d desk) overflows(w api.Word) {
	d.t.Helper()
	if s, err := text(d, w, true); err != api.ErrLong || s != "" {
		d.t.Errorf("%v: %q, %v", w, brief(s), err)
	}
}

// P6.1: strings that fill the text by themselves.
func TestLongStrings(t *testing.T) {
	d := newDesk(t, 10)
	for _, c := range []string{"a", "\u20ac", "\n"} {
		s := strings.Repeat(c, api.MaxChars)
		w := d.text(s)
		if got, err := text(d, w, false); err != api.OK || got != s {
			t.Errorf("%d times %q: %q, %v", api.MaxChars, c, brief(got), err)
		}
		d.overflows(w)
		d.overflows(d.text(s[:len(s)-len(c)]))
		d.h.Collect(nil)
		d.fits(d.text(s[:len(s)-2*len(c)]))
		d.h.Collect(nil)
	}
	d.fits(d.text(strings.Repeat("\"\\", api.MaxChars/4-1) + "\""))
	d.overflows(d.text(strings.Repeat("\"\\", api.MaxChars/4-1) + "\"a"))
}

// P6.1: texts of MaxChars characters that end with each kind of form, and of one
// character more.
func TestLongest(t *testing.T) {
	d := newDesk(t, api.MaxObjects)
	a := d.intern("a")
	for w, s := range map[api.Word]string{
		number(-120):                       "-120",
		a:                                  "a",
		d.intern("a b"):                    "a\\ b",
		d.intern(""):                       "##",
		d.intern("+7"):                     "\\+7",
		d.fresh("\u20ac"):                  "#:\u20ac",
		d.fresh(""):                        "#:",
		d.text(""):                         `""`,
		d.text("\""):                       `"\""`,
		d.list(a, a):                       "(a a)",
		d.cons(a, a):                       "(a . a)",
		d.vector():                         "[]",
		d.vector(a, a):                     "[a a]",
		d.list(symbol(2), a):               "'a",
		d.list(symbol(6), a):               ",@a",
		d.list(symbol(3), null):            "#'nil",
		{Kind: api.KindPrim, N: api.SymIf}: "#<subr if>",
		{Kind: api.KindOver, N: -5}:        "#<overlay -5>",
	} {
		room := api.MaxChars - 2 - len([]rune(s))
		d.fits(d.list(append(d.fillers(room), w)...))
		d.fits(d.vector(append(d.fillers(room), w)...))
		d.fits(d.list(symbol(api.SymQuote), d.list(append(d.fillers(room-1), w)...)))
		d.overflows(d.list(append(d.fillers(room+1), w)...))
		d.overflows(d.vector(append(d.fillers(room+1), w)...))
		if w.Kind != api.KindCons {
			// " . " instead of the last blank.
			d.fits(d.dotted(w, d.fillers(room-2)...))
			d.overflows(d.dotted(w, d.fillers(room-1)...))
		}
	}
}

// P6.1: each character of a form can be the one that is too much. An error behind it
// is not found any more, an error before it is.
func TestWhatIsTooLong(t *testing.T) {
	d := newDesk(t, api.MaxObjects)
	// before is what there is of a list before its element that is an error.
	for before := api.MaxChars - 3; before <= api.MaxChars+3; before++ {
		for bad, want := range map[api.Word]api.Errno{dead(): api.ErrType, strange(): api.ErrUnknown} {
			if before > api.MaxChars {
				want = api.ErrLong
			}
			d.fails(d.list(append(d.fillers(before-1), bad)...), want)
			d.fails(d.list(append(d.fillers(before-1), bad, dead())...), want)
			d.fails(d.vector(append(d.fillers(before-1), bad, strange())...), want)
			d.fails(d.vector(append(d.fillers(before-2), d.vector(bad))...), want)
			d.fails(d.vector(append(d.fillers(before-2), d.list(symbol(api.SymBack), bad))...), want)
			d.fails(d.vector(append(d.fillers(before-3), d.list(symbol(api.SymSplice), bad))...), want)
			d.fails(d.vector(append(d.fillers(before-3), d.list(symbol(api.SymFunction), bad))...), want)
			d.fails(d.dotted(bad, d.fillers(before-3)...), want)
			d.h.Collect(nil)
		}
	}
}

// P6.1: a bracket or prefix that is both too deep and too much, and one that is only
// one of them.
func TestDeepAndLong(t *testing.T) {
	d := newDesk(t, api.MaxObjects)
	for _, around := range openers() {
		// The bracket or prefix stands behind before characters, depth of them open.
		check := func(before, depth int, want api.Errno) {
			t.Helper()
			d.fails(d.nested(d.list(append(d.fillers(before-depth), around(d, dead()))...), depth-1), want)
			d.h.Collect(nil)
		}
		for before := api.MaxChars - 3; before <= api.MaxChars; before++ {
			check(before, api.MaxNest, api.ErrDepth)
		}
		check(api.MaxChars+1, api.MaxNest, api.ErrLong)
		check(api.MaxChars, api.MaxNest-1, api.ErrLong)
		check(api.MaxChars+1, api.MaxNest-1, api.ErrLong)
	}
}

// P6.1: very long vectors, and vectors of vectors, without end.
func TestLongVectors(t *testing.T) {
	d := newDesk(t, 100)
	empty := d.text("")
	l := slices.Repeat([]api.Word{empty}, api.MaxChars-1)
	w := d.vector(l...)
	if s, err := text(d, w, false); err != api.OK || s != "["+strings.Repeat(" ", api.MaxChars-2)+"]" {
		t.Errorf("%q, %v", brief(s), err)
	}
	d.overflows(w)
	long := d.vector(append(l, empty)...)
	d.fails(long, api.ErrLong)
	d.h.SetAt(long, 0, long)
	d.fails(long, api.ErrDepth)
	d.h.SetAt(long, 0, d.vector(w, w))
	d.fails(long, api.ErrLong)
}
