package forms_test

import (
	"slices"
	"strings"
	"testing"

	"copyist/api"
	"copyist/forms"
	"copyist/heap"
)

// P8.1: the symbols of special forms, and no others.
func TestSpecial(t *testing.T) {
	d := newDesk(t, 1)
	special := strings.Fields("quote function lambda if cond and or while progn prog1 setq let let* catch unwind-protect condition-case defvar defconst defun defmacro interactive")
	found := 0
	for n := -5; n < api.FixedSyms+5; n++ {
		s, _ := d.n.Name(n)
		if want := slices.Contains(special, s); forms.Special(n) != want {
			t.Errorf("Special(%d), which is %q: not %t", n, s, want)
		} else if want {
			found++
		}
	}
	if found != len(special) {
		t.Errorf("%d special forms, not %d", found, len(special))
	}
	for _, n := range []int{least, most, 1 << 32} {
		if forms.Special(n) {
			t.Error(n)
		}
	}
}

// described returns parameters as a text, or the error.
func (d desk) described(p api.Params, err api.Errno) string {
	d.t.Helper()
	if err != api.OK {
		if p.Need != nil || p.May != nil || p.Rest != 0 {
			d.t.Errorf("with %v: %v", err, p)
		}
		return err.Error()
	}
	text := func(l []int) string {
		s := ""
		for _, n := range l {
			name, ok := d.n.Name(n)
			if !ok {
				d.t.Errorf("%v: no symbol %d", p, n)
			}
			s += name
		}
		return s
	}
	s := text(p.Need) + "/" + text(p.May) + "/"
	if p.Rest != -1 {
		s += text([]int{p.Rest})
	}
	return s
}

// P8.1: parameter lists and the errors of their elements.
func TestParams(t *testing.T) {
	d := newDesk(t, 1000)
	for s, want := range map[string]string{
		"nil": "//", "(a)": "a//", "(a b c)": "abc//", "(&optional a)": "/a/", "(&rest a)": "//a", "(a &optional b c)": "a/bc/", "(a b &rest c)": "ab//c", "(a &optional b &rest c)": "a/b/c", "(&optional)": "//", "(&optional &rest a)": "//a", "(a &optional)": "a//", "(a &optional &rest b)": "a//b",
		"(lambda quote)": "lambdaquote//", "(\\& \\&REST &body)": "&&REST&body//",
		"5": "error 6", "a": "error 6", "t": "error 6", `"a"`: "error 6", "[a]": "error 6", "(a . b)": "error 6", "(1 . 2)": "error 6", "(a a . b)": "error 6", "(&rest . b)": "error 6",
		"(1)": "error 6", "(a 1)": "error 6", `("a")`: "error 6", "((a))": "error 6", "([])": "error 6", "(a (&optional b))": "error 6",
		"(nil)": "error 10", "(t)": "error 10", "(a nil)": "error 10", "(a t b)": "error 10", "(&optional nil)": "error 10", "(&rest nil)": "error 10", "(&rest t)": "error 10", "(nil nil)": "error 10",
		"(&rest)": "error 5", "(a &rest)": "error 5", "(&optional a &rest)": "error 5", "(&optional &rest)": "error 5",
		"(&optional &optional)": "error 5", "(&optional a &optional b)": "error 5", "(&rest &rest a)": "error 5", "(&rest a &rest b)": "error 5", "(&rest &optional a)": "error 5", "(&rest a &optional)": "error 5", "(&rest a &optional b)": "error 5", "(&rest a &rest)": "error 5",
		"(&rest a b)": "error 5", "(a &rest b c)": "error 5",
		"(a a)": "error 18", "(a b a)": "error 18", "(a &optional a)": "error 18", "(&optional a a)": "error 18", "(a &rest a)": "error 18", "(a &optional b &rest b)": "error 18", "(a &optional b &rest a)": "error 18",
	} {
		w := d.read(s)
		if got := d.described(forms.Params(d.h, w)); got != want {
			t.Errorf("%s: %s, not %s", s, got, want)
		}
		if got := d.shown(w, api.OK); !strings.Contains(s, "\\") && got != s {
			t.Errorf("%s became %s", s, got)
		}
	}
}

// P8.1: the first element with an error counts, and its first error.
func TestParamsOrder(t *testing.T) {
	d := newDesk(t, 1000)
	for s, want := range map[string]string{
		"(1 nil)": "error 6", "(nil 1)": "error 10", "(a a nil)": "error 18", "(nil a a)": "error 10", "(a a 1)": "error 18", "(&rest &rest 1)": "error 5", "(&rest a b 1)": "error 5", "(&rest a b nil)": "error 5",
		"(&rest a nil)": "error 10", "(&rest a t)": "error 10", "(&rest a 1)": "error 6", "(&rest a a)": "error 5", "(a &rest b a)": "error 5", "(a &rest nil)": "error 10", "(a a &rest)": "error 18", "(nil &rest)": "error 10", "(1 &rest)": "error 6",
		"(1 . 2)": "error 6", "(nil . 2)": "error 6", "(a a . 2)": "error 6", "(&rest a b . 2)": "error 6",
	} {
		if got := d.described(forms.Params(d.h, d.read(s))); got != want {
			t.Errorf("%s: %s, not %s", s, got, want)
		}
	}
}

// P8.1: every list of at most six of a few elements.
func TestAllParams(t *testing.T) {
	d := newDesk(t, 100)
	words := map[byte]api.Word{'a': d.intern("a"), 'b': d.intern("b"), 'o': symbol(api.SymOptional), 'r': symbol(api.SymRest), 'n': null, '1': number(1)}
	lists := []string{""}
	for i := 0; i < len(lists); i++ {
		s := lists[i]
		var l []api.Word
		for j := range len(s) {
			l = append(l, words[s[j]])
		}
		d.h.Collect(nil)
		if got, want := d.described(forms.Params(d.h, d.list(l...))), expected(s); got != want {
			t.Errorf("%s: %s, not %s", s, got, want)
		}
		for _, c := range "aborn1" {
			if len(s) < 6 {
				lists = append(lists, s+string(c))
			}
		}
	}
}

// expected describes the parameters of a list of a, b, &optional (o), &rest (r), nil (n)
// and 1.
func expected(s string) string {
	for i, c := range s {
		before := s[:i]
		_, taken, rest := strings.Cut(before, "r")
		switch {
		case c == '1':
			return "error 6"
		case c == 'n':
			return "error 10"
		case c == 'o' && strings.ContainsAny(before, "or"), c == 'r' && rest, c != 'o' && taken != "":
			return "error 5"
		case strings.ContainsRune(before, c):
			return "error 18"
		}
	}
	if strings.HasSuffix(s, "r") {
		return "error 5"
	}
	front, rest, _ := strings.Cut(s, "r")
	need, may, _ := strings.Cut(front, "o")
	return need + "/" + may + "/" + rest
}

// P8.1: symbols are told apart by their numbers, of which any may occur.
func TestParamsAreNumbers(t *testing.T) {
	d := newDesk(t, 100)
	a, b := d.fresh("a"), d.fresh("a")
	if got := d.described(forms.Params(d.h, d.list(a, b, symbol(api.SymOptional), d.intern("a"), symbol(api.SymRest), d.fresh("&rest")))); got != "aa/a/&rest" {
		t.Error(got)
	}
	p, err := forms.Params(d.h, d.list(symbol(least), symbol(api.SymOptional), symbol(-1), symbol(api.SymRest), symbol(most)))
	if err != api.OK || !slices.Equal(p.Need, []int{least}) || !slices.Equal(p.May, []int{-1}) || p.Rest != most {
		t.Error(p, err)
	}
	for want, l := range map[api.Errno][]api.Word{
		api.ErrForm:   {symbol(api.SymRest), symbol(-1), symbol(-2)},
		api.ErrDouble: {symbol(-1), symbol(api.SymRest), symbol(-1)},
	} {
		if got := d.described(forms.Params(d.h, d.list(l...))); got != want.Error() {
			t.Error(l, got)
		}
	}
}

// P8.1: words that are no lists, or not symbols, of every kind.
func TestParamsKinds(t *testing.T) {
	d := newDesk(t, 100)
	for _, w := range []api.Word{number(0), number(1), number(api.SymRest), d.text("a"), d.vector(), d.code(), {Kind: api.KindPrim, N: 70}, {Kind: api.KindBuffer}, {Kind: api.KindWindow}, dead(api.KindCons), dead(api.KindText), {Kind: -1}, {Kind: 11}} {
		for _, l := range []api.Word{w, d.list(w), d.list(symbol(70), w), d.dotted(w, symbol(70)), d.list(symbol(api.SymRest), w)} {
			if got := d.described(forms.Params(d.h, l)); got != "error 6" {
				t.Errorf("%v: %s", w, got)
			}
		}
	}
}

// P8.1: lists of MaxArgs elements, one more, and circular lists.
func TestParamsLimits(t *testing.T) {
	d := newDesk(t, api.MaxObjects)
	var l []api.Word
	for n := range api.MaxArgs {
		l = append(l, symbol(100+n))
	}
	p, err := forms.Params(d.h, d.list(l...))
	if err != api.OK || len(p.Need) != api.MaxArgs || p.Need[254] != 354 || p.Rest != -1 {
		t.Error(p, err)
	}
	for _, x := range []api.Word{symbol(1000), l[0], null, number(1), symbol(api.SymRest), symbol(api.SymOptional)} {
		for _, all := range [][]api.Word{append([]api.Word{x}, l...), append(slices.Clone(l), x)} {
			if got := d.described(forms.Params(d.h, d.list(all...))); got != "error 4" {
				t.Errorf("%v as well: %s", x, got)
			}
			if got := d.described(forms.Params(d.h, d.dotted(number(1), all...))); got != "error 6" {
				t.Errorf("%v as well, in a list that is not proper: %s", x, got)
			}
		}
	}
	for _, w := range []api.Word{d.ring(symbol(100)), d.ring(l...), d.cons(null, d.ring(null, null))} {
		if got := d.described(forms.Params(d.h, w)); got != "error 6" {
			t.Error("a circular list:", got)
		}
	}
}

// P8.1: invalid heaps.
func TestParamsNil(t *testing.T) {
	d := newDesk(t, 10)
	for _, h := range []*heap.Heap{nil, {}} {
		for _, w := range []api.Word{null, d.read("(a)"), number(1), {Kind: -1}} {
			if got := d.described(forms.Params(h, w)); got != "error 1" {
				t.Error(w, got)
			}
		}
	}
}

// P8.1 and P8.4: how many arguments fit, and that they fit with a rest parameter too.
func TestFits(t *testing.T) {
	d := newDesk(t, 100)
	for s, want := range map[string][2]int{
		"nil": {0, 0}, "(a)": {1, 1}, "(a b)": {2, 2}, "(&optional a)": {0, 1}, "(a &optional b c)": {1, 3}, "(&rest a)": {0, most}, "(a b &rest c)": {2, most}, "(a &optional b &rest c)": {1, most}, "(&optional)": {0, 0},
	} {
		p, err := forms.Params(d.h, d.read(s))
		if err != api.OK {
			t.Fatal(s, err)
		}
		more := p
		more.Rest = 100
		for _, n := range []int{least, -1, 0, 1, 2, 3, 4, 5, 255, 256, 1000, most} {
			fits := n >= want[0] && n <= want[1]
			if forms.Fits(p, n) != fits {
				t.Errorf("%s: %d arguments: not %t", s, n, fits)
			}
			if fits && !forms.Fits(more, n) || forms.Fits(more, n) != (n >= want[0]) {
				t.Errorf("%s with a rest parameter: %d arguments", s, n)
			}
		}
	}
}
