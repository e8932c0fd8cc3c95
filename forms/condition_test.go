package forms_test

import (
	"slices"
	"strings"
	"testing"

	"copyist/api"
	"copyist/forms"
	"copyist/heap"
)

// conditions lists the conditions with fixed numbers, in order.
func conditions() []string {
	return strings.Fields("error quit void-variable void-function wrong-type-argument wrong-number-of-arguments args-out-of-range arith-error overflow-error setting-constant no-catch invalid-function invalid-read-syntax end-of-file circular-list excessive-lisp-nesting memory-full text-read-only beginning-of-buffer end-of-buffer search-failed invalid-regexp user-error buffer-read-only cyclic-function-indirection")
}

// kin returns the names of the kin of a symbol.
func (d desk) kin(n int) string {
	d.t.Helper()
	var l []string
	for _, k := range forms.Kin(d.h, d.n, n) {
		s, ok := d.n.Name(k)
		if !ok {
			d.t.Errorf("no symbol %d", k)
		}
		l = append(l, s)
	}
	return strings.Join(l, " ")
}

// P8.3: the kin of the fixed conditions, whatever their properties are.
func TestKin(t *testing.T) {
	special := map[string]string{"error": "error", "quit": "quit", "overflow-error": "overflow-error arith-error error", "text-read-only": "text-read-only buffer-read-only error"}
	d := newDesk(t, 1000)
	for range 2 {
		for _, s := range conditions() {
			want, ok := special[s]
			if !ok {
				want = s + " error"
			}
			w := d.intern(s)
			if got := d.kin(w.N); got != want {
				t.Errorf("%s: %s, not %s", s, got, want)
			}
			d.give(w, "error-conditions", d.read("(quit a)"))
		}
	}
}

// P8.3: no other symbol has kin without a property.
func TestKinOfOtherSymbols(t *testing.T) {
	d := newDesk(t, 100)
	fixed := conditions()
	for n := -3; n < api.FixedSyms+5; n++ {
		if s, _ := d.n.Name(n); !slices.Contains(fixed, s) && forms.Kin(d.h, d.n, n) != nil {
			t.Errorf("%d, which is %q, has kin", n, s)
		}
	}
	for _, n := range []int{least, most, api.MaxSyms, 1<<32 + api.SymError} {
		if got := forms.Kin(d.h, d.n, n); got != nil {
			t.Error(n, got)
		}
	}
	// Nothing is interned, and a property of the symbol nil is not taken for one whose
	// symbol does not exist.
	a := d.intern("a")
	if err := d.n.SetProp(a.N, api.SymNil, d.read("(error)")); err != api.OK {
		t.Fatal(err)
	}
	key := d.fresh("error-conditions")
	if err := d.n.SetProp(a.N, key.N, d.read("(error)")); err != api.OK {
		t.Fatal(err)
	}
	many := d.n.Many()
	if got := forms.Kin(d.h, d.n, a.N); got != nil || d.n.Many() != many {
		t.Error(got, d.n.Many()-many)
	}
}

// P8.3: the property error-conditions.
func TestKinProperty(t *testing.T) {
	d := newDesk(t, 1000)
	a := d.intern("a")
	for s, want := range map[string]string{
		"(a error)": "a error", "(b)": "b", "(a a b a)": "a a b a", "nil": "", "(own 1 error)": "own error", `(a "b" (c) [d] 5)`: "a", "(nil t a)": "nil t a", "(1 2)": "", "(quit)": "quit", "(overflow-error)": "overflow-error",
		"(a . b)": "", "(a b . 1)": "", "a": "", "5": "", `"a"`: "", "[a error]": "", "error": "", "t": "",
	} {
		for _, w := range []api.Word{a, null, truth, symbol(api.SymLambda), d.fresh("error")} {
			d.give(w, "error-conditions", d.read(s))
			if got := d.kin(w.N); got != want {
				t.Errorf("%s: %s, not %s", s, got, want)
			}
		}
	}
	for _, w := range []api.Word{d.ring(a), d.cons(a, d.ring(a, a)), dead(api.KindCons), d.dotted(dead(api.KindCons), a), {Kind: -1}} {
		d.give(a, "error-conditions", w)
		if got := d.kin(a.N); got != "" {
			t.Error(w, got)
		}
	}
	d.give(a, "error-conditions", d.list(symbol(most), dead(api.KindVec), symbol(-1)))
	if got := forms.Kin(d.h, d.n, a.N); !slices.Equal(got, []int{most, -1}) {
		t.Error(got)
	}
}

// P8.3: invalid heaps and tables, where only the handler t matches.
func TestKinNil(t *testing.T) {
	d := newDesk(t, 100)
	for _, p := range invalid(d) {
		for _, n := range []int{api.SymError, api.SymOverflow, api.SymQuit, api.SymNil, 70} {
			if got := forms.Kin(p.h, p.n, n); got != nil {
				t.Error(n, got)
			}
			for _, handler := range []api.Word{symbol(n), d.list(symbol(n)), null} {
				if forms.Matches(p.h, p.n, symbol(n), handler) {
					t.Error(n, handler)
				}
			}
			if !forms.Matches(p.h, p.n, symbol(n), truth) {
				t.Error("the handler t:", n)
			}
		}
	}
}

// P8.3: results share no memory.
func TestKinIsNew(t *testing.T) {
	d := newDesk(t, 100)
	a := d.intern("a")
	d.give(a, "error-conditions", d.read("(a error)"))
	for _, n := range []int{api.SymQuit, api.SymArith, api.SymOverflow, api.SymTextReadOnly, a.N} {
		l := forms.Kin(d.h, d.n, n)
		want := slices.Clone(l)
		clear(l)
		if got := forms.Kin(d.h, d.n, n); !slices.Equal(got, want) {
			t.Error(n, got)
		}
	}
}

// P8.3: which handlers match which conditions.
func TestMatches(t *testing.T) {
	d := newDesk(t, 1000)
	d.give(d.intern("own"), "error-conditions", d.read("(own mine nil t error 1)"))
	d.give(d.intern("lost"), "error-conditions", d.read("(lost . error)"))
	for s, want := range map[string]bool{
		"(overflow-error (quit arith-error))": true, "(overflow-error arith-error)": true, "(overflow-error overflow-error)": true, "(overflow-error error)": true, "(overflow-error quit)": false, "(arith-error overflow-error)": false, "(text-read-only buffer-read-only)": true, "(buffer-read-only text-read-only)": false, "(error error)": true, "(error arith-error)": false, "(quit quit)": true, "(quit error)": false, "(quit (error quit))": true, "(user-error error)": true,
		"(quit t)": true, "(error t)": true, "(none t)": true, "(nil t)": true, "(5 t)": true, `("a" t)`: true, "((error) t)": true,
		"(5 error)": false, `("error" error)`: false, "((error) error)": false, "([error] (error))": false, "(37 error)": false,
		"(error nil)": false, "(own nil)": false, "(own (nil))": false, "(own (t))": false, "(error (t))": false, "(none (t))": false, "(nil nil)": false, "(nil (nil))": false, "(t (t))": false,
		"(own own)": true, "(own mine)": true, "(own error)": true, "(own quit)": false, "(own (quit nil t mine))": true, "(own (1))": false, "(lost lost)": false, "(lost error)": false, "(none none)": false, "(none error)": false, "(nil error)": false,
		"(error ())": false, "(error (quit))": false, "(error (1 quit error))": true, "(error ((error)))": false, "(error [error])": false, `(error "error")`: false, "(error 37)": false, "(error (37))": false,
		"(error (error . quit))": false, "(error (quit . error))": false, "(error (error . 1))": false, "(error (error error))": true,
	} {
		l := d.elements(d.read(s))
		if got := forms.Matches(d.h, d.n, l[0], l[1]); got != want {
			t.Errorf("%s: %t", s, got)
		}
	}
	failure := symbol(api.SymError)
	for _, handler := range []api.Word{d.ring(failure), d.cons(failure, d.ring(failure)), dead(api.KindCons), d.dotted(dead(api.KindCons), failure), d.list(dead(api.KindCons)), d.list(api.Word{Kind: api.KindPrim, N: api.SymError}), {Kind: api.KindPrim, N: api.SymError}, {Kind: -1, N: api.SymT}, {Kind: api.KindPrim, N: api.SymT}} {
		if forms.Matches(d.h, d.n, failure, handler) {
			t.Error(handler)
		}
	}
	if forms.Matches(d.h, d.n, api.Word{Kind: api.KindPrim, N: api.SymError}, failure) {
		t.Error("a condition that is a primitive")
	}
}

// P8.3: signals.
func TestSignal(t *testing.T) {
	d := newDesk(t, 100)
	s, err := forms.Signal(d.h, api.SymWrongType, d.intern("listp"), number(1))
	if err != api.OK || s.Cond != symbol(api.SymWrongType) || d.shown(s.Data, api.OK) != "(listp 1)" {
		t.Error(s, err)
	}
	for _, n := range []int{0, 1, 62, -1, least, most} {
		many := d.h.Many()
		if s, err := forms.Signal(d.h, n); err != api.OK || s != (api.Signal{Cond: symbol(n), Data: null}) || d.h.Many() != many {
			t.Error(n, s, err)
		}
	}
	data := []api.Word{null, dead(api.KindVec), {Kind: -1}, symbol(-1), d.list(null)}
	given := slices.Clone(data)
	s, err = forms.Signal(d.h, 70, data...)
	if got := d.elements(s.Data); err != api.OK || !slices.Equal(got, given) || !slices.Equal(data, given) {
		t.Error(s, err)
	}
}

// P8.3: signals without room for their data.
func TestSignalErrors(t *testing.T) {
	d := newDesk(t, 5)
	d.list(null, null)
	if s, err := forms.Signal(d.h, api.SymError, null, null, null, null); s != (api.Signal{}) || err != api.ErrFull || d.h.Many() != 2 {
		t.Error(s, err)
	}
	if s, err := forms.Signal(d.h, api.SymError, null, null, null); err != api.OK || len(d.elements(s.Data)) != 3 {
		t.Error(s, err)
	}
	if s, err := forms.Signal(d.h, api.SymError); err != api.OK || s.Data != null {
		t.Error("no data in a full heap:", s, err)
	}
	d = newDesk(t, api.MaxObjects)
	data := make([]api.Word, api.MaxChars+1)
	if s, err := forms.Signal(d.h, api.SymError, data...); s != (api.Signal{}) || err != api.ErrFull || d.h.Many() != 0 {
		t.Error("too many data:", s, err)
	}
	if s, err := forms.Signal(d.h, api.SymError, data[1:]...); err != api.OK || len(d.elements(s.Data)) != api.MaxChars {
		t.Error("as many data as possible:", err)
	}
	for _, h := range []*heap.Heap{nil, {}} {
		for _, l := range [][]api.Word{nil, data[:1], data} {
			if s, err := forms.Signal(h, api.SymError, l...); s != (api.Signal{}) || err != api.ErrNil {
				t.Error(s, err)
			}
		}
	}
}
