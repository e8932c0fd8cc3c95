package show_test

import (
	"testing"

	"copyist/api"
	"copyist/heap"
	"copyist/names"
)

// P6.1: heaps and tables that are not valid. This is the first error.
func TestInvalid(t *testing.T) {
	d := newDesk(t, 10)
	for _, x := range []desk{{t, nil, d.n}, {t, d.h, nil}, {t, nil, nil}, {t, &heap.Heap{}, d.n}, {t, d.h, &names.Table{}}, {t, &heap.Heap{}, &names.Table{}}} {
		for _, w := range []api.Word{number(1), null, dead(), strange(), {Kind: -1}, {Kind: api.KindBuffer}} {
			x.fails(w, api.ErrNil)
			x.allFails(api.ErrNil, w, w)
		}
		x.allFails(api.ErrNil)
	}
}

// P6.1: objects that are not live, and words of unknown kinds.
func TestNotLive(t *testing.T) {
	d := newDesk(t, 10)
	d.text("a")
	for _, kind := range []int{api.KindCons, api.KindVec, api.KindCode} {
		d.fails(api.Word{Kind: kind}, api.ErrType)
	}
	for _, kind := range []int{api.KindCons, api.KindText, api.KindVec, api.KindCode} {
		for _, n := range []int{1, -1, api.MaxObjects, most, least} {
			d.fails(api.Word{Kind: kind, N: n}, api.ErrType)
		}
	}
	for _, kind := range []int{-1, 11, 12, most, least} {
		for _, n := range []int{0, 1, -1} {
			d.fails(api.Word{Kind: kind, N: n}, api.ErrType)
		}
	}
}

// P6.1: an object that was collected.
func TestCollected(t *testing.T) {
	d := newDesk(t, 10)
	a := d.intern("a")
	text := d.text("b")
	list, inner, end := d.list(text, a), d.cons(a, text), d.cons(symbol(api.SymQuote), d.list(a))
	quote := d.list(symbol(api.SymQuote), text)
	d.shows(inner, `(a . "b")`, "(a . b)")
	d.h.Collect([]api.Word{text})
	for _, w := range []api.Word{list, inner, end, quote} {
		d.fails(w, api.ErrType)
	}
	d.shows(text, `"b"`, "b")
}

// P6.1: symbols that are not in the table.
func TestUnknown(t *testing.T) {
	d := newDesk(t, 1)
	last := d.fresh("a")
	for _, kind := range []int{api.KindSym, api.KindPrim} {
		for _, n := range []int{-1, last.N + 1, api.MaxSyms, most, least} {
			d.fails(api.Word{Kind: kind, N: n}, api.ErrUnknown)
		}
	}
	d.same(last, "#:a")
}

// P6.1: an error in a part, wherever it is.
func TestPartsFail(t *testing.T) {
	d := newDesk(t, 1000)
	a, q := d.intern("a"), symbol(api.SymQuote)
	for bad, want := range map[api.Word]api.Errno{
		dead(): api.ErrType, {Kind: api.KindText, N: -1}: api.ErrType, {Kind: 11}: api.ErrType,
		strange(): api.ErrUnknown, {Kind: api.KindPrim, N: -1}: api.ErrUnknown,
	} {
		for _, w := range []api.Word{
			d.list(bad), d.list(a, bad), d.list(a, bad, a), d.list(a, a, bad), d.list(bad, a),
			d.cons(a, bad), d.cons(bad, a), d.dotted(bad, a, a), d.list(a, d.list(a, bad)),
			d.vector(bad), d.vector(a, bad, a), d.vector(d.vector(a, d.vector(bad))),
			d.list(q, bad), d.list(q, bad, a), d.cons(q, bad), d.dotted(bad, q, a), d.list(a, d.list(q, d.list(bad))),
		} {
			d.fails(w, want)
		}
	}
}

// P6.1: of several errors the first from the left.
func TestFirstError(t *testing.T) {
	d := newDesk(t, 10000)
	bad := map[api.Word]api.Errno{
		dead():                             api.ErrType,
		strange():                          api.ErrUnknown,
		d.nested(number(1), api.MaxNest+1): api.ErrDepth,
		d.list(d.fillers(api.MaxChars)...): api.ErrLong,
	}
	for x, want := range bad {
		d.fails(x, want)
		for y := range bad {
			d.fails(d.list(x, y), want)
			d.fails(d.cons(x, y), want)
			d.fails(d.dotted(y, x, x), want)
			d.fails(d.vector(number(1), x, y), want)
			d.fails(d.list(d.list(symbol(api.SymQuote), x), y), want)
			d.fails(d.list(symbol(api.SymQuote), x, y), want)
			d.allFails(want, x, y)
			d.allFails(want, number(1), x, y)
		}
	}
}

// opener creates a form that has one bracket or prefix around w.
type opener func(d desk, w api.Word) api.Word

// openers lists an opener for each bracket and prefix.
func openers() []opener {
	l := []opener{
		func(d desk, w api.Word) api.Word { return d.list(w) },
		func(d desk, w api.Word) api.Word { return d.list(null, w) },
		func(d desk, w api.Word) api.Word { return d.cons(w, number(1)) },
		func(d desk, w api.Word) api.Word { return d.vector(w) },
		func(d desk, w api.Word) api.Word { return d.vector(null, w) },
	}
	for n := range prefixes() {
		l = append(l, func(d desk, w api.Word) api.Word { return d.list(symbol(n), w) })
	}
	return l
}

// works checks that w has both texts.
func (d desk) works(w api.Word) {
	d.t.Helper()
	for _, escape := range []bool{true, false} {
		if s, err := text(d, w, escape); err != api.OK || s == "" {
			d.t.Errorf("%v, %t: %q, %v", w, escape, brief(s), err)
		}
	}
}

// P6.1: 200 open brackets and prefixes, and one more.
func TestNesting(t *testing.T) {
	d := newDesk(t, api.MaxObjects)
	for _, around := range openers() {
		var deep api.Word
		for _, atom := range []api.Word{number(1), null, d.text("("), {Kind: api.KindBuffer}} {
			deep = atom
			for range api.MaxNest {
				deep = around(d, deep)
			}
			d.works(deep)
		}
		for _, outer := range openers() {
			d.fails(outer(d, deep), api.ErrDepth)
		}
		for _, inner := range openers() {
			w := inner(d, null)
			for range api.MaxNest {
				w = around(d, w)
			}
			d.fails(w, api.ErrDepth)
		}
		// Without a bracket of its own, the error of a word comes first.
		for bad, want := range map[api.Word]api.Errno{dead(): api.ErrType, {Kind: api.KindVec, N: -1}: api.ErrType, strange(): api.ErrUnknown} {
			w := bad
			for range api.MaxNest {
				w = around(d, w)
			}
			d.fails(w, want)
		}
	}
	// An empty list is a symbol, an empty vector has brackets.
	d.works(d.nested(d.list(), api.MaxNest))
	d.works(d.nested(d.vector(), api.MaxNest-1))
	d.fails(d.nested(d.vector(), api.MaxNest), api.ErrDepth)
}

// P6.1: what is complete is not open any more.
func TestSiblings(t *testing.T) {
	d := newDesk(t, api.MaxObjects)
	for _, around := range openers() {
		var l []api.Word
		for range 300 {
			l = append(l, around(d, null))
		}
		deep := d.nested(number(1), api.MaxNest-2)
		d.works(d.list(d.vector(append(l, deep)...)))
		d.works(d.vector(d.list(append(l, deep)...)))
		d.fails(d.list(d.vector(append(l, d.list(deep))...)), api.ErrDepth)
		d.works(d.list(append(l, deep, deep, deep)...))
	}
	// The end of a list is within its bracket, its rest is not a list of its own.
	w := d.cons(null, d.nested(number(1), api.MaxNest))
	d.works(w)
	w = d.cons(null, d.vector(d.nested(number(1), api.MaxNest-2)))
	d.works(w)
	d.fails(d.list(w), api.ErrDepth)
}

// P6.1: words that contain themselves.
func TestCircles(t *testing.T) {
	d := newDesk(t, 100)
	for _, x := range []api.Word{number(1), d.text(""), d.intern(""), d.vector(), d.list(number(1))} {
		d.fails(d.ring(x), api.ErrLong)
		d.fails(d.list(null, d.ring(x)), api.ErrLong)
		d.fails(d.cons(x, d.ring(x)), api.ErrLong)
	}
	d.fails(d.ring(dead()), api.ErrType)
	d.fails(d.cons(number(1), d.ring(strange())), api.ErrUnknown)
	w := d.ring(null)
	d.h.SetCar(w, w)
	d.fails(w, api.ErrDepth)
	d.h.SetCdr(w, null)
	d.fails(w, api.ErrDepth)
	v := d.vector(null, null)
	d.h.SetAt(v, 1, v)
	d.fails(v, api.ErrDepth)
	d.h.SetAt(v, 0, d.list(symbol(api.SymQuote), v))
	d.fails(v, api.ErrDepth)
	q := d.list(symbol(api.SymQuote), null)
	inner, _ := d.h.Cdr(q)
	d.h.SetCar(inner, q)
	d.fails(q, api.ErrDepth)
	// The first element of a ring may be a symbol with a prefix.
	d.fails(d.ring(symbol(api.SymQuote)), api.ErrLong)
	two := d.list(symbol(api.SymQuote), number(1))
	inner, _ = d.h.Cdr(two)
	d.h.SetCdr(inner, two)
	d.fails(two, api.ErrLong)
}
