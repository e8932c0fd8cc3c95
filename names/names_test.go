package names_test

import (
	"strings"
	"testing"

	"copyist/api"
	"copyist/names"
)

// fixed lists the names of the fixed symbols by their numbers.
func fixed() map[int]string {
	return map[int]string{
		api.SymNil: "nil", api.SymT: "t", api.SymQuote: "quote", api.SymFunction: "function", api.SymBack: "`",
		api.SymComma: ",", api.SymSplice: ",@", api.SymLambda: "lambda", api.SymClosure: "closure", api.SymMacro: "macro",
		api.SymRest: "&rest", api.SymOptional: "&optional", api.SymIf: "if", api.SymCond: "cond", api.SymAnd: "and",
		api.SymOr: "or", api.SymWhile: "while", api.SymProgn: "progn", api.SymProg1: "prog1", api.SymSetq: "setq",
		api.SymLet: "let", api.SymLetStar: "let*", api.SymCatch: "catch", api.SymUnwind: "unwind-protect",
		api.SymCondCase: "condition-case", api.SymDefvar: "defvar", api.SymDefconst: "defconst", api.SymDefun: "defun",
		api.SymDefmacro: "defmacro", api.SymInteractive: "interactive", api.SymFuncall: "funcall", api.SymApply: "apply",
		api.SymMapcar: "mapcar", api.SymMapc: "mapc", api.SymEval: "eval", api.SymThrow: "throw", api.SymSignal: "signal",
		api.SymError: "error", api.SymQuit: "quit", api.SymVoidVariable: "void-variable",
		api.SymVoidFunction: "void-function", api.SymWrongType: "wrong-type-argument",
		api.SymWrongNumber: "wrong-number-of-arguments", api.SymOutOfRange: "args-out-of-range",
		api.SymArith: "arith-error", api.SymOverflow: "overflow-error", api.SymSetConst: "setting-constant",
		api.SymNoCatch: "no-catch", api.SymInvalidFunction: "invalid-function", api.SymReadSyntax: "invalid-read-syntax",
		api.SymEndOfFile: "end-of-file", api.SymCircular: "circular-list", api.SymNesting: "excessive-lisp-nesting",
		api.SymMemory: "memory-full", api.SymTextReadOnly: "text-read-only", api.SymBufferStart: "beginning-of-buffer",
		api.SymBufferEnd: "end-of-buffer", api.SymSearchFailed: "search-failed", api.SymInvalidRegexp: "invalid-regexp",
		api.SymUserError: "user-error", api.SymBufferReadOnly: "buffer-read-only",
		api.SymCyclicFunction: "cyclic-function-indirection",
	}
}

// P3.1
func TestFixedSymbols(t *testing.T) {
	x := names.New()
	if len(fixed()) != api.FixedSyms || x.Many() != api.FixedSyms {
		t.Fatalf("%d fixed symbols, a new table has %d, not %d", len(fixed()), x.Many(), api.FixedSyms)
	}
	for n, s := range fixed() {
		if name, ok := x.Name(n); !ok || name != s {
			t.Errorf("Name(%d) = %q, %v", n, name, ok)
		}
		if found, ok := x.Find(s); !ok || found != n {
			t.Errorf("Find(%q) = %d, %v", s, found, ok)
		}
		if found, e := x.Intern(s); e != api.OK || found != n {
			t.Errorf("Intern(%q) = %d, %v", s, found, e)
		}
		if !x.Interned(n) {
			t.Errorf("symbol %d is not interned", n)
		}
		if w, ok := x.Func(n); ok || w != (api.Word{}) || len(x.Props(n)) != 0 {
			t.Errorf("symbol %d has a function %v, %v or properties %v", n, w, ok, x.Props(n))
		}
	}
	if x.Many() != api.FixedSyms {
		t.Error("interning the fixed symbols made new ones:", x.Many())
	}
}

// P3.1
func TestIntern(t *testing.T) {
	x := names.New()
	texts := []string{"car", "", " ", "Car", "a\x00b", "\u00e9", "e\u0301", "\U0001f600", "NIL", "nil ", ",@,", "\ufffd", strings.Repeat("a", 1000), strings.Repeat("\U0001f600", 1000), strings.Repeat("a", 999)}
	for i, s := range texts {
		if n, ok := x.Find(s); ok || n != 0 {
			t.Errorf("before Intern, Find(%q) = %d, %v", s, n, ok)
		}
		n, e := x.Intern(s)
		if e != api.OK || n != api.FixedSyms+i || x.Many() != n+1 {
			t.Errorf("Intern(%q) = %d, %v, of %d symbols", s, n, e, x.Many())
		}
	}
	for i, s := range texts {
		n := api.FixedSyms + i
		if found, e := x.Intern(s); e != api.OK || found != n {
			t.Errorf("Intern(%q) again = %d, %v", s, found, e)
		}
		if found, ok := x.Find(s); !ok || found != n {
			t.Errorf("Find(%q) = %d, %v", s, found, ok)
		}
		if name, ok := x.Name(n); !ok || name != s || !x.Interned(n) {
			t.Errorf("Name(%d) = %q, %v; interned: %v", n, name, ok, x.Interned(n))
		}
	}
	if x.Many() != api.FixedSyms+len(texts) {
		t.Error("interning names again made new symbols:", x.Many())
	}
}

// P3.1
func TestFresh(t *testing.T) {
	x := names.New()
	for i, s := range []string{"car", "car", "", "nil", strings.Repeat("\u20ac", 1000)} {
		n, e := x.Fresh(s)
		if e != api.OK || n != api.FixedSyms+i || x.Many() != n+1 {
			t.Errorf("Fresh(%q) = %d, %v, of %d symbols", s, n, e, x.Many())
		}
		if name, ok := x.Name(n); !ok || name != s || x.Interned(n) {
			t.Errorf("Name(%d) = %q, %v; interned: %v", n, name, ok, x.Interned(n))
		}
		if found, ok := x.Find(s); ok != (s == "nil") || found != 0 {
			t.Errorf("after Fresh, Find(%q) = %d, %v", s, found, ok)
		}
	}
	// A name of symbols that are not interned can still be interned.
	if n, e := x.Intern("car"); e != api.OK || n != api.FixedSyms+5 || !x.Interned(n) || x.Interned(api.FixedSyms) {
		t.Errorf("Intern after Fresh = %d, %v", n, e)
	}
}

// refused checks that x makes no symbol with the name s, and finds none.
func refused(t *testing.T, x *names.Table, s string, wanted api.Errno) {
	t.Helper()
	a, e := x.Intern(s)
	b, f := x.Fresh(s)
	if a != 0 || b != 0 || e != wanted || f != wanted {
		t.Errorf("a name of %d bytes: Intern = %d, %v, Fresh = %d, %v, not %v", len(s), a, e, b, f, wanted)
	}
	if n, ok := x.Find(s); ok || n != 0 {
		t.Errorf("a name of %d bytes: Find = %d, %v", len(s), n, ok)
	}
}

// P3.1: names that no symbol can have.
func TestBadNames(t *testing.T) {
	x := names.New()
	before := watch(t, x)
	for _, s := range malformed() {
		refused(t, x, s, api.ErrForm)
		// The form is checked before the length.
		refused(t, x, strings.Repeat("a", 2000)+s, api.ErrForm)
	}
	for _, s := range tooLong() {
		refused(t, x, s, api.ErrLong)
	}
	if !same(watch(t, x), before) {
		t.Error("bad names changed the table")
	}
}

// P3.1: a table with MaxSyms symbols.
func TestFull(t *testing.T) {
	x, last := full(t)
	if last != api.MaxSyms-1 || x.Many() != api.MaxSyms {
		t.Fatalf("symbol %d of %d", last, x.Many())
	}
	before := watch(t, x)
	// There is no interned "filler".
	for _, s := range []string{"more", "", "filler"} {
		refused(t, x, s, api.ErrFull)
	}
	if _, e := x.Fresh("last"); e != api.ErrFull {
		t.Error("Fresh of a name that is interned:", e)
	}
	for s, n := range map[string]int{"last": last, "nil": 0} {
		if found, e := x.Intern(s); e != api.OK || found != n {
			t.Errorf("Intern(%q) = %d, %v", s, found, e)
		}
	}
	// The other errors come first.
	for _, s := range malformed() {
		refused(t, x, s, api.ErrForm)
	}
	for _, s := range tooLong() {
		refused(t, x, s, api.ErrLong)
	}
	if !same(watch(t, x), before) {
		t.Error("a full table changed")
	}
}

// P3.1: interning until the table is full, too.
func TestFullOfInterned(t *testing.T) {
	x := names.New()
	s := ""
	for x.Many() < api.MaxSyms {
		s = string(rune(0x4e00 + x.Many()))
		created(t)(x.Intern(s))
	}
	if n, e := x.Intern("one more"); n != 0 || e != api.ErrFull || x.Many() != api.MaxSyms {
		t.Errorf("Intern = %d, %v, of %d symbols", n, e, x.Many())
	}
	if n, ok := x.Find(s); !ok || n != api.MaxSyms-1 {
		t.Errorf("Find(%q) = %d, %v", s, n, ok)
	}
}

// P3.1, P3.2: numbers of no symbol.
func TestAbsent(t *testing.T) {
	x := names.New()
	created(t)(x.Fresh("a"))
	before := watch(t, x)
	for _, n := range absent(x) {
		if s, ok := x.Name(n); ok || s != "" {
			t.Errorf("Name(%d) = %q, %v", n, s, ok)
		}
		if x.Interned(n) {
			t.Errorf("symbol %d is interned", n)
		}
		if w, ok := x.Func(n); ok || w != (api.Word{}) {
			t.Errorf("Func(%d) = %v, %v", n, w, ok)
		}
		if e := x.SetFunc(n, number(5)); e != api.ErrUnknown {
			t.Errorf("SetFunc(%d): %v", n, e)
		}
		if e := x.ClearFunc(n); e != api.ErrUnknown {
			t.Errorf("ClearFunc(%d): %v", n, e)
		}
		for _, pair := range [][2]int{{n, 2}, {2, n}, {n, n}} {
			if e := x.SetProp(pair[0], pair[1], number(5)); e != api.ErrUnknown {
				t.Errorf("SetProp%v: %v", pair, e)
			}
			if w, ok := x.Prop(pair[0], pair[1]); ok || w != (api.Word{}) {
				t.Errorf("Prop%v = %v, %v", pair, w, ok)
			}
		}
		if l := x.Props(n); len(l) != 0 {
			t.Errorf("Props(%d) = %v", n, l)
		}
	}
	if !same(watch(t, x), before) {
		t.Error("numbers of no symbol changed the table")
	}
}

// P3.3: invalid tables.
func TestInvalid(t *testing.T) {
	for name, x := range invalid() {
		// No error of a name comes before that of the table.
		for _, s := range append(malformed(), "nil", "", strings.Repeat("a", 1001)) {
			refused(t, x, s, api.ErrNil)
		}
		for _, n := range []int{0, 1, 2, -1, 61, 62, most, least} {
			if e := x.SetFunc(n, number(5)); e != api.ErrNil {
				t.Errorf("%s: SetFunc(%d): %v", name, n, e)
			}
			if e := x.ClearFunc(n); e != api.ErrNil {
				t.Errorf("%s: ClearFunc(%d): %v", name, n, e)
			}
			if e := x.SetProp(n, n, number(5)); e != api.ErrNil {
				t.Errorf("%s: SetProp(%d): %v", name, n, e)
			}
			s, is := x.Name(n)
			w, has := x.Func(n)
			p, with := x.Prop(n, n)
			if s != "" || is || w != p || w != (api.Word{}) || has || with || x.Interned(n) || len(x.Props(n)) != 0 {
				t.Errorf("%s: symbol %d: %q, %v; %v, %v; %v, %v; %v", name, n, s, is, w, has, p, with, x.Props(n))
			}
		}
		if x.Many() != 0 {
			t.Errorf("%s: %d symbols", name, x.Many())
		}
	}
}

// P3.3: a copy is the same, and what is done to one of the two does not show in the
// other.
func TestCopy(t *testing.T) {
	x := names.New()
	ok := created(t)
	a := ok(x.Intern("a"))
	b := ok(x.Fresh("a"))
	x.SetFunc(a, number(1))
	x.SetProp(a, 7, number(2))
	x.SetProp(b, a, number(3))
	before := watch(t, x)
	o := x.Copy()
	if !same(watch(t, o), before) {
		t.Fatal("the copy differs")
	}
	change := func(x *names.Table) {
		x.SetFunc(a, number(4))
		x.SetFunc(b, number(5))
		x.SetProp(a, 7, number(6))
		x.SetProp(a, 6, number(7))
		x.SetProp(b, b, number(8))
		n := ok(x.Intern("b"))
		ok(x.Fresh("c"))
		x.SetProp(0, n, number(9))
	}
	change(o)
	if !same(watch(t, x), before) {
		t.Error("a change of the copy changed the table")
	}
	if _, found := x.Find("b"); found {
		t.Error("a name interned in the copy is found in the table")
	}
	o = x.Copy()
	change(x)
	if !same(watch(t, o), before) {
		t.Error("a change of the table changed the copy")
	}
	if _, found := o.Find("b"); found {
		t.Error("a name interned in the table is found in the copy")
	}
	// Both go on with their own numbers, and a copy of the copy is one, too.
	if n := ok(o.Copy().Intern("d")); n != b+1 || o.Many() != b+1 {
		t.Errorf("the next symbol of a copy is %d, the copied table has %d", n, o.Many())
	}
}

// P3.3: a full table's copy is full, too.
func TestCopyOfFull(t *testing.T) {
	x, last := full(t)
	o := x.Copy()
	if _, e := o.Intern("more"); e != api.ErrFull {
		t.Error("Intern:", e)
	}
	if n, e := o.Intern("last"); e != api.OK || n != last {
		t.Errorf("Intern of an old name = %d, %v", n, e)
	}
}
