package forms_test

import (
	"slices"
	"strings"
	"testing"

	"copyist/api"
	"copyist/forms"
	"copyist/heap"
	"copyist/lists"
)

// form translates a word, and checks that no object that was there before is changed.
func (d desk) form(w api.Word) (api.Word, api.Errno) {
	d.t.Helper()
	before := d.h.Copy()
	form, err := forms.Backquote(d.h, d.n, w)
	if !kept(before, d.h) {
		d.t.Error("an object was changed")
	}
	return form, err
}

// kept reports whether all objects of a heap are in another one too.
func kept(before, after *heap.Heap) bool {
	now := objects(after)
	for w, c := range objects(before) {
		if x, ok := now[w]; !ok || !alike(c, x) {
			return false
		}
	}
	return true
}

// translates checks forms, or errors, that are given as texts.
func (d desk) translates(cases map[string]string) {
	d.t.Helper()
	for s, want := range cases {
		d.h.Collect(nil)
		if got := d.shown(d.form(d.read(s))); got != want {
			d.t.Errorf("%s: %s, not %s", s, got, want)
		}
	}
}

// P8.2: words without commas.
func TestConstants(t *testing.T) {
	newDesk(t, 100).translates(map[string]string{
		"7": "7", "-1": "-1", "nil": "nil", "t": "t", `"a"`: `"a"`, `""`: `""`,
		"x": "'x", "lambda": "'lambda", "\\,": "'\\,", "\\,@": "'\\,@", "\\`": "'\\`",
		"(1 2)": "'(1 2)", "(a . b)": "'(a . b)", "(nil)": "'(nil)", "((a) [b])": "'((a) [b])", "[]": "'[]", "[a (b)]": "'[a (b)]", "'a": "''a", "#'a": "'#'a", "(quote . a)": "'(quote . a)",
		"`a": "'`a", "``a": "'``a", "(a . `b)": "'(a \\` b)",
	})
}

// P8.2: commas in lists.
func TestCommas(t *testing.T) {
	newDesk(t, 100).translates(map[string]string{
		",x": "x", ",5": "5", ",(f x)": "(f x)", ",,x": ",x", ",,@x": ",@x", ",`x": "`x", ",`,x": "`,x", ",nil": "nil", ",[,x]": "[,x]", ",(,@x . ,@y)": "(,@x \\,@ y)",
		"(,a)": "(cons a nil)", "(a ,b ,@c)": "(cons 'a (cons b (append c nil)))", "(,a b c)": "(cons a '(b c))", "(a b ,c)": "(cons 'a (cons 'b (cons c nil)))",
		`(1 ,a nil t "s")`: `(cons 1 (cons a '(nil t "s")))`, "(,a nil)": "(cons a '(nil))", `(nil ,a t "s" ,b)`: `(cons nil (cons a (cons t (cons "s" (cons b nil)))))`,
		"(,@a)": "(append a nil)", "(,@a b)": "(append a '(b))", "(,@a ,@b ,c)": "(append a (append b (cons c nil)))", "(a ,@(f b) c)": "(cons 'a (append (f b) '(c)))",
		"((,a) b)": "(cons (cons a nil) '(b))", "((a) (,b))": "(cons '(a) (cons (cons b nil) nil))", "((,@a) ,@b)": "(cons (append a nil) (append b nil))", "(((,a)))": "(cons (cons (cons a nil) nil) nil)",
		"',a": "(cons 'quote (cons a nil))", "#',a": "(cons 'function (cons a nil))", "(f ',a)": "(cons 'f (cons (cons 'quote (cons a nil)) nil))", "',@a": "(cons 'quote (append a nil))",
		"(,',a)": "(cons ',a nil)", "(,@',a)": "(append ',a nil)", "(,,@a)": "(cons ,@a nil)", "(,@,@a)": "(append ,@a nil)",
	})
}

// P8.2: commas in last cdrs, and lists in which a comma is not before a single word.
func TestDots(t *testing.T) {
	newDesk(t, 100).translates(map[string]string{
		"(a . ,b)": "(cons 'a b)", "(a b . ,c)": "(cons 'a (cons 'b c))", "(,a . b)": "(cons a 'b)", "(,a . 5)": "(cons a 5)", "(,a . nil)": "(cons a nil)", "(,@a . b)": "(append a 'b)", "(,@a . ,b)": "(append a b)", "(,a . [b])": "(cons a '[b])", "(a . [,b])": "(cons 'a (apply 'vector (cons b nil)))",
		"(a \\, b)": "(cons 'a b)", "(\\, b)": "b", "(\\,@ b c)": "'(\\,@ b c)",
		"(\\, a b)": "'(\\, a b)", "(\\,)": "'(\\,)", "(\\, . a)": "'(\\, . a)", "(\\, a . b)": "'(\\, a . b)", "(\\,@)": "'(\\,@)", "(\\,@ . a)": "'(\\,@ . a)", "(\\,@ a . b)": "'(\\,@ a . b)", "(\\` a b)": "'(\\` a b)", "(\\` . a)": "'(\\` . a)",
		"(\\, ,a ,b)": "(cons '\\, (cons a (cons b nil)))", "(\\, . ,a)": "(cons '\\, a)", "(\\,@ . ,a)": "(cons '\\,@ a)", "(\\, ,a . b)": "(cons '\\, (cons a 'b))", "(\\` ,a ,b)": "(cons '\\` (cons a (cons b nil)))", "(\\` . ,a)": "(cons '\\` a)", "(\\, . [a nil])": "'(\\, . [a nil])", "(\\,@ . [a nil])": "'(\\,@ . [a nil])", "(\\` ,@a b)": "(cons '\\` (append a '(b)))",
		"(,a \\,)": "(cons a '(\\,))",
	})
}

// P8.2: backquotes within backquotes.
func TestLevels(t *testing.T) {
	newDesk(t, 200).translates(map[string]string{
		"`,a": "'`,a", "`,@a": "'`,@a", "(`(a ,b))": "'(`(a ,b))", "`(a ,@b)": "'`(a ,@b)", "`(a . ,@b)": "'`(a \\,@ b)", "``,,a": "'``,,a", "`[,a]": "'`[,a]",
		"`,,a":        "(cons '\\` (cons (cons '\\, (cons a nil)) nil))",
		"`,,@a":       "(cons '\\` (cons (cons '\\, (append a nil)) nil))",
		"`,@,a":       "(cons '\\` (cons (cons '\\,@ (cons a nil)) nil))",
		"`,@,@a":      "(cons '\\` (cons (cons '\\,@ (append a nil)) nil))",
		"(`(a ,,b))":  "(cons (cons '\\` (cons (cons 'a (cons (cons '\\, (cons b nil)) nil)) nil)) nil)",
		"(`,(a ,b))":  "(cons (cons '\\` (cons (cons '\\, (cons (cons 'a (cons b nil)) nil)) nil)) nil)",
		"`(,a ,(,b))": "(cons '\\` (cons (cons ',a (cons (cons '\\, (cons (cons b nil) nil)) nil)) nil))",
		"`(,@a ,,b)":  "(cons '\\` (cons (cons ',@a (cons (cons '\\, (cons b nil)) nil)) nil))",
		"``,,,a":      "(cons '\\` (cons (cons '\\` (cons (cons '\\, (cons (cons '\\, (cons a nil)) nil)) nil)) nil))",
		"`,`,,a":      "(cons '\\` (cons (cons '\\, (cons (cons '\\` (cons (cons '\\, (cons a nil)) nil)) nil)) nil))",
		"`,`,a":       "'`,`,a",
		"(`,a ,b)":    "(cons '`,a (cons b nil))",
		"(,a `,b)":    "(cons a '(`,b))",
		"(a ,`,b)":    "(cons 'a (cons `,b nil))",
		"(a . `,,b)":  "(cons 'a (cons '\\` (cons (cons '\\, (cons b nil)) nil)))",
		"`(a . ,,b)":  "(cons '\\` (cons (cons 'a (cons '\\, (cons b nil))) nil))",
		"`(a . ,,@b)": "(cons '\\` (cons (cons 'a (cons '\\, (append b nil))) nil))",
		"`[,a ,,b]":   "(cons '\\` (cons (apply 'vector (cons ',a (cons (cons '\\, (cons b nil)) nil))) nil))",
	})
}

// P8.2: vectors. The list of the elements is translated like any other list.
func TestVectors(t *testing.T) {
	newDesk(t, 200).translates(map[string]string{
		"[a ,b]": "(apply 'vector (cons 'a (cons b nil)))", "[,a]": "(apply 'vector (cons a nil))", "[,@a]": "(apply 'vector (append a nil))", "[,a b c]": "(apply 'vector (cons a '(b c)))", "[a ,@b 1]": "(apply 'vector (cons 'a (append b '(1))))",
		"[[,a]]": "(apply 'vector (cons (apply 'vector (cons a nil)) nil))", "([,a] [b])": "(cons (apply 'vector (cons a nil)) '([b]))", "[(,a) ,b]": "(apply 'vector (cons (cons a nil) (cons b nil)))", "[(a . ,b)]": "(apply 'vector (cons (cons 'a b) nil))",
		"[quote ,a]": "(apply 'vector (cons 'quote (cons a nil)))",
		"[\\, a]":    "'[\\, a]", "[\\,@ a]": "'[\\,@ a]", "[\\` a]": "'[\\` a]",
		"[\\, ,a]": "(apply 'vector ,a)", "[a \\, ,b]": "(apply 'vector (cons 'a ,b))", "[\\` ,a]": "(apply 'vector '`,a)", "[\\` ,,a]": "(apply 'vector (cons '\\` (cons (cons '\\, (cons a nil)) nil)))",
		"[\\,@ ,a]": "error 5", "[a \\,@ ,b]": "error 5",
	})
}

// P8.2: ,@ where there is no list of which it could be an element.
func TestMisplacedSplices(t *testing.T) {
	newDesk(t, 200).translates(map[string]string{
		",@x": "error 5", ",@(f x)": "error 5", "(a . ,@b)": "error 5", "(a \\,@ b)": "error 5", "(,@a . ,@b)": "error 5", "((a . ,@b) c)": "error 5", "[(a . ,@b)]": "error 5", "(,a . ,@b)": "error 5", "(\\, . ,@a)": "error 5", "(\\` . ,@a)": "error 5",
		"`,(a . ,@b)": "error 5", "`,(,@a . ,@b)": "error 5", "`(a . ,(b . ,@c))": "error 5",
		"`(a . ,@b)": "'`(a \\,@ b)", "`(,,a . ,@b)": "(cons '\\` (cons (cons (cons '\\, (cons a nil)) ',@b) nil))", "(\\,@ a b)": "'(\\,@ a b)",
		"`(a . ,@,b)": "(cons '\\` (cons (cons 'a (cons '\\,@ (cons b nil))) nil))",
	})
}

// P8.2: symbols that are not interned, and words of every other kind.
func TestKindsOfWords(t *testing.T) {
	d := newDesk(t, 1000)
	x := d.list(symbol(api.SymComma), d.intern("x"))
	for _, w := range []api.Word{number(least), number(most), d.text("a"), d.code(), null, truth, {Kind: api.KindPrim, N: 2}, {Kind: api.KindBuffer, N: -1}, {Kind: api.KindMarker}, {Kind: api.KindOver}, {Kind: api.KindWindow}, dead(api.KindText), dead(api.KindCode), {Kind: -1, N: 5}, {Kind: 11}} {
		if form, err := d.form(w); form != w || err != api.OK {
			t.Errorf("%v: %v, %v", w, form, err)
		}
		d.isForm(d.list(w, x), w)
	}
	for _, w := range []api.Word{symbol(2), d.fresh("nil"), symbol(-1), symbol(most), d.list(null), d.vector(), dead(api.KindCons), dead(api.KindVec), {Kind: api.KindCons, N: -1}} {
		form, err := d.form(w)
		if got := d.elements(form); err != api.OK || !slices.Equal(got, []api.Word{symbol(api.SymQuote), w}) {
			t.Errorf("%v: %v, %v", w, got, err)
		}
		form, err = d.form(d.list(w, x))
		if got := d.elements(form); err != api.OK || len(got) != 3 || !slices.Equal(d.elements(got[1]), []api.Word{symbol(api.SymQuote), w}) {
			t.Errorf("%v: %v, %v", w, got, err)
		}
	}
}

// isForm checks that the form of w is (cons first ..).
func (d desk) isForm(w, first api.Word) {
	d.t.Helper()
	form, err := d.form(w)
	if got := d.elements(form); err != api.OK || len(got) != 3 || got[0] != d.intern("cons") || got[1] != first {
		d.t.Errorf("%v: %v, %v", w, got, err)
	}
}

// elements returns the elements of a list, none if it is not proper.
func (d desk) elements(w api.Word) []api.Word {
	l, _ := lists.Slice(d.h, w)
	return l
}

// P8.2: words that are not live when they are translated, but get a new object.
func TestRevivedWords(t *testing.T) {
	for n := range 30 {
		for _, kind := range []int{api.KindCons, api.KindVec} {
			d := newDesk(t, 100)
			w := api.Word{Kind: kind, N: n}
			x := d.list(symbol(api.SymComma), d.intern("x"))
			v := d.vector(x, w, d.vector(x, w), d.dotted(w, x), number(1))
			if d.h.Live(w) {
				continue
			}
			form, err := d.form(v)
			quoted := 0
			for c := range objects(d.h) {
				if slices.Equal(d.elements(c), []api.Word{symbol(api.SymQuote), w}) {
					quoted++
				}
			}
			if err != api.OK || quoted < 2 || len(d.elements(form)) != 3 {
				t.Errorf("%v: %v, %v, quoted %d times", w, form, err, quoted)
			}
		}
	}
}

// P8.2: invalid heaps and tables, before everything else.
func TestBackquoteNil(t *testing.T) {
	d := newDesk(t, 100)
	for _, p := range invalid(d) {
		for _, w := range []api.Word{null, number(1), d.read("(a ,b)"), d.read(",@a"), d.ring(null), {Kind: -1}} {
			if got, err := forms.Backquote(p.h, p.n, w); got != (api.Word{}) || err != api.ErrNil {
				t.Error(w, got, err)
			}
		}
	}
}

// P8.2: the symbols that are interned, in order.
func TestSymbolsOfForms(t *testing.T) {
	for s, want := range map[string]string{
		"7": "", "x": "x", "(a b)": "a b", ",x": "x", "(,x)": "x cons", "(,@x)": "x append", "[,x]": "x cons vector", "[,@x]": "x append vector", "(a ,@x ,y)": "a x y cons append", "(,x ,@y)": "x y append cons", "([,x] ,@y)": "x y cons vector append", "(,@x [,y])": "x y cons vector append", "(,@x . [,@y])": "x y append vector",
		"(cons ,x)": "cons x", "[vector ,x]": "vector x cons", "(,x . ,@y)": "x y", "((,x) . ,@y)": "x y cons",
	} {
		d := newDesk(t, 100)
		d.form(d.read(s))
		if got := strings.Join(d.symbols(api.FixedSyms), " "); got != want {
			t.Errorf("%s: the symbols %s, not %s", s, got, want)
		}
	}
	// The symbols are the interned ones, whatever other symbols have their names.
	d := newDesk(t, 100)
	d.fresh("cons")
	n := d.intern("cons")
	if form, err := d.form(d.read("(,x)")); err != api.OK || d.elements(form)[0] != n {
		t.Error(form, err)
	}
}
