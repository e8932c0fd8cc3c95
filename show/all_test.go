package show_test

import (
	"slices"
	"strings"
	"testing"

	"copyist/api"
	"copyist/show"
)

// showsAll checks the two texts of words.
func (d desk) showsAll(escaped, plain string, l ...api.Word) {
	d.t.Helper()
	for escape, want := range map[bool]string{true: escaped, false: plain} {
		if got, err := show.All(d.h, d.n, l, escape); err != api.OK || got != want {
			d.t.Errorf("All(%d words, %t) = %q, %v, not %q", len(l), escape, brief(got), err, brief(want))
		}
	}
}

// P6.1: the texts of words, with blanks between them.
func TestAll(t *testing.T) {
	d := newDesk(t, 100)
	a, e := d.intern("a b"), d.text("")
	d.showsAll("", "")
	d.showsAll("1", "1", number(1))
	d.showsAll("1 nil", "1 nil", number(1), null)
	d.showsAll(`a\ b "" a\ b`, "a b  a b", a, e, a)
	d.showsAll(`""`, "", e)
	d.showsAll(`"" "" ""`, "  ", e, e, e)
	d.showsAll(`(a\ b . 1) 'nil [""] #<window 3>`, `(a b . 1) 'nil [] #<window 3>`, d.cons(a, number(1)), d.list(symbol(api.SymQuote), null), d.vector(e), api.Word{Kind: api.KindWindow, N: 3})
	d.showsAll(`quote a\ b`, "quote a b", symbol(api.SymQuote), a)
}

// P6.1: the first error of words, which have no depth together.
func TestAllErrors(t *testing.T) {
	d := newDesk(t, 10000)
	deep := d.nested(number(1), api.MaxNest)
	text := strings.Repeat("(", api.MaxNest) + "1" + strings.Repeat(")", api.MaxNest)
	d.showsAll(text+" "+text, text+" "+text, deep, deep)
	for bad, want := range map[api.Word]api.Errno{dead(): api.ErrType, {Kind: 12}: api.ErrType, strange(): api.ErrUnknown, d.list(deep): api.ErrDepth, d.ring(null): api.ErrLong} {
		d.allFails(want, bad)
		d.allFails(want, number(1), bad)
		d.allFails(want, bad, number(1))
		d.allFails(want, deep, number(1), bad, dead(), strange())
	}
}

// P6.1: words whose texts and blanks are MaxChars characters together, and one more.
func TestAllLong(t *testing.T) {
	d := newDesk(t, 1000)
	half := d.fillers(api.MaxChars / 2)
	all := append(slices.Clone(half), d.fillers(api.MaxChars/2)...)
	want, err := show.All(d.h, d.n, append(all, d.text("")), false)
	if n := len([]rune(want)); err != api.OK || n != api.MaxChars || want[n-1:] == "" {
		t.Errorf("%d characters, %v", n, err)
	}
	s, err := show.All(d.h, d.n, all, true)
	if n := len([]rune(s)); err != api.OK || n != api.MaxChars-1 || s+" " != want {
		t.Errorf("%d characters, %v", n, err)
	}
	d.allFails(api.ErrLong, append(slices.Clone(all), number(1))...)
	d.allFails(api.ErrLong, append(slices.Clone(all), d.intern("a"))...)
	d.allFails(api.ErrLong, append(slices.Clone(all), d.text(""), d.text(""))...)
	e := d.text("")
	many := slices.Repeat([]api.Word{e}, api.MaxChars+1)
	if s, err := show.All(d.h, d.n, many, false); err != api.OK || s != strings.Repeat(" ", api.MaxChars) {
		t.Errorf("%q, %v", brief(s), err)
	}
	d.allFails(api.ErrLong, append(many, e)...)
}

// P6.1: the error of a word is that of its own text, as if nothing were before it; the
// words before it are too long first.
func TestAllOwnErrors(t *testing.T) {
	d := newDesk(t, 1000)
	full := d.text(strings.Repeat("a", api.MaxChars))
	most := d.text(strings.Repeat("a", api.MaxChars-2))
	for bad, want := range map[api.Word]api.Errno{
		dead(): api.ErrType, strange(): api.ErrUnknown, d.nested(number(1), api.MaxNest+1): api.ErrDepth,
		d.list(append(d.fillers(60000), strange())...): api.ErrUnknown,
		d.list(append(d.fillers(60000), dead())...):    api.ErrType,
	} {
		for _, l := range [][]api.Word{{full, bad}, {most, bad}, {most, number(1), bad}} {
			if s, err := show.All(d.h, d.n, l, false); err != want || s != "" {
				t.Errorf("%q, %v, not %v", brief(s), err, want)
			}
		}
		d.allFails(api.ErrLong, full, number(1), bad)
		d.allFails(api.ErrLong, most, number(1), number(1), bad)
	}
	d.allFails(api.ErrLong, full, d.text(""))
	if s, err := show.All(d.h, d.n, []api.Word{most, d.text(""), d.text("")}, false); err != api.OK || len(s) != api.MaxChars {
		t.Errorf("%d characters, %v", len(s), err)
	}
}
