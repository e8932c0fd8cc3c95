package forms_test

import (
	"slices"
	"testing"

	"copyist/api"
	"copyist/forms"
)

// maxWords is how many words a backquoted word has at most.
const maxWords = 10000

// fails checks the error of words that have no form.
func (d desk) fails(want api.Errno, words ...api.Word) {
	d.t.Helper()
	for _, w := range words {
		before := d.h.Many()
		if form, err := forms.Backquote(d.h, d.n, w); err != want || form != (api.Word{}) {
			d.t.Errorf("%v: %v, %v, not %v", w, form, err, want)
		}
		if d.h.Many() != before && want != api.ErrFull {
			d.t.Errorf("%v: with %v, objects were created", w, want)
		}
	}
}

// works checks that words have forms.
func (d desk) works(words ...api.Word) {
	d.t.Helper()
	for _, w := range words {
		if form, err := forms.Backquote(d.h, d.n, w); err != api.OK {
			d.t.Errorf("%v: %v, %v", w, form, err)
		}
	}
}

// P8.2: words of 10,000 words, and of one more.
func TestManyWords(t *testing.T) {
	d := newDesk(t, api.MaxObjects)
	x := symbol(100)
	comma := d.list(symbol(api.SymComma), x)
	firsts := []api.Word{x, number(1), d.text("a"), d.code(), d.vector(), comma, d.list(symbol(api.SymSplice), x), d.vector(comma)}
	for i, size := range []int{1, 1, 1, 1, 1, 5, 5, 6} {
		first := firsts[i]
		// A list of n words consists of 2n + 1. An empty vector consists of one.
		n := (maxWords - size) / 2
		left := maxWords - size - 2*n
		for _, front := range []int{0, n / 2, n - 1} {
			l := slices.Insert(slices.Repeat([]api.Word{x}, n-1), front, first)
			d.works(d.dotted(d.vector(slices.Repeat([]api.Word{null}, left)...), l...))
			d.fails(api.ErrLong, d.dotted(d.vector(slices.Repeat([]api.Word{null}, left+1)...), l...), d.list(append(l, x)...))
			d.h.Collect(firsts)
		}
		v := append(slices.Repeat([]api.Word{x}, maxWords-1-size), first)
		d.works(d.vector(v...))
		d.fails(api.ErrLong, d.vector(append(v, x)...), d.cons(d.vector(v...), null))
		d.h.Collect(firsts)
	}
	d.fails(api.ErrLong, d.vector(slices.Repeat([]api.Word{null}, api.MaxChars)...))
}

// P8.2: words that are reached more than once.
func TestSharedWords(t *testing.T) {
	d := newDesk(t, api.MaxObjects)
	starts := []api.Word{number(1), null, d.text("a"), d.list(symbol(api.SymComma), number(1))}
	for i, size := range []int{1, 1, 1, 5} {
		pair, vector := starts[i], starts[i]
		for range 20 {
			size, pair, vector = 2*size+1, d.cons(pair, pair), d.vector(vector, vector)
			if size > maxWords {
				d.fails(api.ErrLong, pair, vector)
			} else {
				d.works(pair, vector)
			}
		}
		d.h.Collect(starts)
	}
}

// P8.2: words that contain themselves.
func TestCircularWords(t *testing.T) {
	d := newDesk(t, api.MaxObjects)
	d.fails(api.ErrLong, d.ring(null), d.ring(number(1), d.read(",a"), d.read(",@b")), d.list(d.ring(null)), d.vector(d.ring(null)), d.dotted(d.ring(null), null))
	w := d.list(null, null)
	for _, set := range []func(){func() { d.h.SetCar(w, w) }, func() { d.h.SetCdr(w, w) }, func() { d.h.SetCar(w, null) }} {
		set()
		d.fails(api.ErrLong, w, d.list(symbol(api.SymComma), w), d.list(symbol(api.SymSplice), w))
	}
	for _, n := range []int{1, 2, 100, 9000, api.MaxChars} {
		v := d.vector(slices.Repeat([]api.Word{null}, n)...)
		d.h.SetAt(v, 0, v)
		d.fails(api.ErrLong, v, d.list(v))
	}
}

// deepened returns w in depth lists or vectors, by turns.
func (d desk) deepened(w api.Word, depth int, around ...func(w api.Word) api.Word) api.Word {
	for i := range depth {
		w = around[i%len(around)](w)
	}
	return w
}

// P8.2: words that are nested in 200 cars or elements, and in one more.
func TestDeepWords(t *testing.T) {
	d := newDesk(t, api.MaxObjects)
	car := func(w api.Word) api.Word { return d.cons(w, null) }
	element := func(w api.Word) api.Word { return d.vector(null, w) }
	second := func(w api.Word) api.Word { return d.list(number(1), w) }
	quoted := func(w api.Word) api.Word { return d.list(symbol(api.SymBack), w) }
	cdr := func(w api.Word) api.Word { return d.cons(null, w) }
	x := symbol(100)
	for _, around := range [][]func(api.Word) api.Word{{car}, {element}, {second}, {quoted}, {car, element, second, quoted}} {
		for inner, depth := range map[api.Word]int{x: 0, d.text("a"): 0, d.list(symbol(api.SymComma), x): 1, d.list(x): 1, d.vector(x): 1, d.vector(): 0, d.dotted(x, x): 1, dead(api.KindCons): 0} {
			w := d.deepened(inner, api.MaxNest-depth, around...)
			d.works(w, cdr(cdr(w)))
			d.fails(api.ErrDepth, car(w), element(w), second(w), quoted(w), cdr(car(cdr(w))), d.list(symbol(api.SymComma), w), d.list(w, x))
		}
		d.h.Collect(nil)
	}
	// Cdrs do not count, and what is beside a word does not.
	deep := d.deepened(x, api.MaxNest-1, car)
	d.works(d.deepened(x, 4000, cdr), d.deepened(d.list(deep), 4000, cdr), d.list(deep, deep, deep))
	d.fails(api.ErrDepth, d.list(null, null, car(deep)), d.deepened(d.list(car(deep)), 4000, cdr))
}

// P8.2: too many words come before depth, and both before everything else.
func TestOrderOfLimits(t *testing.T) {
	d := newDesk(t, api.MaxObjects)
	car := func(w api.Word) api.Word { return d.list(w) }
	long := d.list(slices.Repeat([]api.Word{number(1)}, maxWords/2)...)
	deep := d.deepened(number(1), api.MaxNest+1, car)
	splice := d.list(symbol(api.SymSplice), number(1))
	d.fails(api.ErrLong, d.list(deep, long), d.list(long, deep), d.deepened(long, 2*api.MaxNest, car), d.deepened(number(1), maxWords, car), d.list(symbol(api.SymSplice), long), d.dotted(splice, long))
	d.fails(api.ErrDepth, d.list(symbol(api.SymSplice), deep), d.dotted(splice, deep), d.list(d.dotted(splice, number(1)), deep))
	d.fails(api.ErrForm, splice, d.dotted(splice, number(1)))
	// The heap has no room for a form.
	words := []api.Word{d.list(long, deep), d.list(deep, null), d.dotted(splice, number(1)), d.dotted(splice, symbol(100)), long}
	for d.h.Many() < d.h.Limit() {
		d.cons(null, null)
	}
	for i, want := range []api.Errno{api.ErrLong, api.ErrDepth, api.ErrForm, api.ErrFull, api.ErrLong} {
		d.fails(want, words[i])
	}
}

// P8.2: the first error from the left of ErrForm and ErrFull, and what was created
// before it.
func TestFullHeaps(t *testing.T) {
	for _, c := range []struct {
		text    string
		free    int
		want    string
		created int
		symbols int
	}{
		{"(a . ,@b)", 2, "error 5", 2, 0}, {"(a . ,@b)", 1, "error 7", 0, 0}, {"(1 . ,@b)", 0, "error 5", 0, 0}, {"((,a) . ,@b)", 3, "error 5", 3, 1}, {"((,a) . ,@b)", 2, "error 7", 0, 1},
		{"(a b)", 2, "'(a b)", 2, 0}, {"(a b)", 1, "error 7", 0, 0}, {"x", 1, "error 7", 0, 0}, {",x", 0, "x", 0, 0}, {"7", 0, "7", 0, 0},
		{"(a ,b)", 8, "(cons 'a (cons b nil))", 8, 1}, {"(a ,b)", 7, "error 7", 5, 1}, {"(a ,b)", 4, "error 7", 2, 1}, {"(a ,b)", 1, "error 7", 0, 0},
		{"(,@a b)", 5, "(append a '(b))", 5, 1}, {"(,@a b)", 4, "error 7", 2, 1}, {"(,@a b)", 1, "error 7", 0, 0},
		{"[,a 1]", 10, "error 7", 9, 2}, {"[,a 1]", 1, "error 7", 0, 0}, {"[,a 1]", 3, "error 7", 2, 0}, {"[,a 1]", 6, "error 7", 4, 1}, {"[,a 1]", 7, "error 7", 7, 2}, {"[,a 1]", 9, "error 7", 9, 2}, {"[,a 1]", 11, "error 7", 9, 2}, {"[,a 1]", 12, "(apply 'vector (cons a '(1)))", 12, 2},
	} {
		d := newDesk(t, 100)
		w := d.read(c.text)
		for d.h.Many() < d.h.Limit()-c.free {
			d.cons(null, null)
		}
		objects, symbols := d.h.Many(), d.n.Many()
		got := d.shown(d.form(w))
		if got != c.want || d.h.Many() != objects+c.created || d.n.Many() != symbols+c.symbols {
			t.Errorf("%s with room for %d: %s, %d objects and %d symbols", c.text, c.free, got, d.h.Many()-objects, d.n.Many()-symbols)
		}
	}
}

// P8.2: symbol tables that are full, or become full.
func TestFullTables(t *testing.T) {
	for _, c := range []struct {
		text    string
		free    int
		want    string
		created int
	}{
		{"(1 2)", 0, "'(1 2)", 2}, {"((,1) . ,@2)", 0, "error 7", 0}, {"((,1) . ,@2)", 1, "error 5", 3}, {"(,1)", 0, "error 7", 0}, {"(,1)", 1, "(cons 1 nil)", 3}, {"(,1 2 ,3)", 0, "error 7", 0}, {"(,1 (2) ,3)", 0, "error 7", 2},
		{"(,@1 (2))", 0, "error 7", 2}, {"(,@1 (2))", 1, "(append 1 '((2)))", 5}, {"[,1 (2)]", 0, "error 7", 4}, {"[,1 (2)]", 1, "error 7", 7}, {"[,1 (2)]", 2, "(apply 'vector (cons 1 '((2))))", 12},
	} {
		d := newDesk(t, 100)
		w := d.read(c.text)
		d.n = tableFor(c.free)
		objects := d.h.Many()
		if got := d.shown(d.form(w)); got != c.want || d.h.Many() != objects+c.created {
			t.Errorf("%s with room for %d symbols: %s, %d objects", c.text, c.free, got, d.h.Many()-objects)
		}
	}
	// Symbols that are interned need no room.
	d := newDesk(t, 100)
	w := d.read("([,cons ,@append] apply vector)")
	for d.n.Many() < api.MaxSyms {
		d.fresh("")
	}
	d.works(w)
}
