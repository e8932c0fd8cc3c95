package show_test

import (
	"testing"

	"copyist/api"
)

// P6.1: lists and their ends.
func TestLists(t *testing.T) {
	d := newDesk(t, 1000)
	a, b, one := d.intern("a"), d.intern("b"), number(1)
	text := d.text(`x"`)
	d.same(d.list(), "nil")
	d.same(d.list(a), "(a)")
	d.same(d.list(null), "(nil)")
	d.same(d.list(a, b, one), "(a b 1)")
	d.same(d.cons(a, b), "(a . b)")
	d.same(d.dotted(one, a, b), "(a b . 1)")
	d.same(d.cons(null, null), "(nil)")
	d.same(d.cons(null, symbol(api.SymT)), "(nil . t)")
	d.same(d.cons(a, d.list(b)), "(a b)")
	d.same(d.list(d.list(a), d.list(), d.list(d.list(b))), "((a) nil ((b)))")
	d.same(d.cons(d.cons(a, b), d.cons(a, b)), "((a . b) a . b)")
	d.same(d.cons(a, d.vector(b)), "(a . [b])")
	d.shows(d.cons(one, text), `(1 . "x\"")`, `(1 . x")`)
	d.shows(d.list(text, text), `("x\"" "x\"")`, `(x" x")`)
	d.shows(d.list(d.text(""), d.intern("")), `("" ##)`, "( )")
	d.shows(d.cons(d.intern(""), d.intern("")), "(## . ##)", "( . )")
	d.shows(d.list(d.intern("1"), d.intern("a b"), d.fresh("")), `(\1 a\ b #:)`, "(1 a b #:)")
	d.shows(d.cons(d.intern("."), d.intern(".")), `(\. . \.)`, "(. . .)")
	d.same(d.cons(a, api.Word{Kind: api.KindBuffer, N: 3}), "(a . #<buffer 3>)")
}

// P6.1: vectors.
func TestVectors(t *testing.T) {
	d := newDesk(t, 100)
	a := d.intern("a")
	d.same(d.vector(), "[]")
	d.same(d.vector(a), "[a]")
	d.same(d.vector(number(1), number(-2), null), "[1 -2 nil]")
	d.same(d.vector(d.vector(), d.vector(d.vector(a)), d.list(a)), "[[] [[a]] (a)]")
	d.same(d.vector(symbol(api.SymQuote), a), "[quote a]")
	d.shows(d.vector(d.text("a\\"), d.intern("")), `["a\\" ##]`, `[a\ ]`)
	d.shows(d.vector(d.text(""), d.text(""), d.text("")), `["" "" ""]`, "[  ]")
}

// prefixes returns what is shown for the symbols that have a prefix.
func prefixes() map[int]string {
	return map[int]string{api.SymQuote: "'", api.SymBack: "`", api.SymComma: ",", api.SymSplice: ",@", api.SymFunction: "#'"}
}

// P6.1: lists of two elements with a prefix instead of the first.
func TestPrefixes(t *testing.T) {
	d := newDesk(t, 1000)
	a := d.intern("a")
	for n, s := range prefixes() {
		q := symbol(n)
		d.same(d.list(q, a), s+"a")
		d.same(d.list(q, null), s+"nil")
		d.same(d.list(q, d.list(a, a)), s+"(a a)")
		d.same(d.list(q, d.vector(a)), s+"[a]")
		d.same(d.list(a, d.list(q, a), a), "(a "+s+"a a)")
		d.same(d.vector(d.list(q, a), d.list(q, a)), "["+s+"a "+s+"a]")
		d.same(d.cons(d.list(q, a), a), "("+s+"a . a)")
		d.shows(d.list(q, d.text("\"")), s+`"\""`, s+`"`)
		d.shows(d.list(q, d.intern("")), s+"##", s)
		d.shows(d.list(q, d.intern("@")), s+`\@`, s+"@")
		for m, p := range prefixes() {
			d.same(d.list(q, d.list(symbol(m), a)), s+p+"a")
		}
	}
	d.same(d.list(symbol(api.SymQuote), symbol(api.SymQuote)), "'quote")
	d.same(d.list(symbol(api.SymFunction), symbol(api.SymFunction)), "#'function")
}

// P6.1: lists that begin with the same symbols and have no prefix.
func TestNoPrefixes(t *testing.T) {
	d := newDesk(t, 1000)
	a := d.intern("a")
	for n, name := range map[int][2]string{
		api.SymQuote: {"quote", "quote"}, api.SymFunction: {"function", "function"},
		api.SymBack: {"\\`", "`"}, api.SymComma: {`\,`, ","}, api.SymSplice: {`\,@`, ",@"},
	} {
		q := symbol(n)
		for w, rest := range map[api.Word]string{
			d.list(q):                 ")",
			d.list(q, a, a):           " a a)",
			d.cons(q, a):              " . a)",
			d.cons(q, d.vector()):     " . [])",
			d.dotted(a, q, a):         " a . a)",
			d.dotted(number(0), q, a): " a . 0)",
			d.cons(q, number(0)):      " . 0)",
			d.list(q, null, null):     " nil nil)",
		} {
			d.shows(w, "("+name[0]+rest, "("+name[1]+rest)
		}
		// The elements of a list do not become a list of their own behind the first.
		d.shows(d.list(a, q, a), "(a "+name[0]+" a)", "(a "+name[1]+" a)")
		d.shows(d.cons(a, d.list(q, a)), "(a "+name[0]+" a)", "(a "+name[1]+" a)")
	}
	// Others with the same name, number or place.
	d.same(d.list(d.fresh("quote"), a), "(#:quote a)")
	d.same(d.list(number(api.SymQuote), a), "(2 a)")
	d.same(d.list(api.Word{Kind: api.KindPrim, N: api.SymFunction}, a), "(#<subr function> a)")
	d.same(d.list(api.Word{Kind: api.KindBuffer, N: api.SymBack}, a), "(#<buffer 4> a)")
	d.same(d.list(symbol(api.SymLambda), a), "(lambda a)")
	d.same(d.list(null, a), "(nil a)")
	d.same(d.list(a, symbol(api.SymQuote)), "(a quote)")
}
