package forms_test

import (
	"strings"
	"testing"

	"copyist/api"
	"copyist/forms"
	"copyist/show"
)

// said returns the message of a condition with data, or the error.
func (d desk) said(cond, data api.Word) string {
	d.t.Helper()
	many := d.n.Many()
	s, err := forms.Message(d.h, d.n, api.Signal{Cond: cond, Data: data})
	if d.n.Many() != many {
		d.t.Errorf("%v, %v: a symbol was created", cond, data)
	}
	if err != api.OK {
		if s != "" {
			d.t.Errorf("with %v: %q", err, s)
		}
		return err.Error()
	}
	return s
}

// P8.3: the words of the fixed conditions, without and with data.
func TestWordsOfConditions(t *testing.T) {
	d := newDesk(t, 1000)
	words := strings.Split("error|Quit|Symbol's value as variable is void|Symbol's function definition is void|Wrong type argument|Wrong number of arguments|Args out of range|Arithmetic error|Arithmetic overflow error|Attempt to set a constant symbol|No catch for tag|Invalid function|Invalid read syntax|End of file during parsing|List contains a loop|Lisp nesting exceeds|Memory exhausted|Text is read-only|Beginning of buffer|End of buffer|Search failed|Invalid regexp|user error|Buffer is read-only|Symbol's chain of function indirections contains a loop", "|")
	names := conditions()
	if len(words) != len(names) {
		t.Fatal(len(words), len(names))
	}
	data := d.read(`(a "b" (1 . 2))`)
	for range 2 {
		for i, s := range names {
			w := d.intern(s)
			if got := d.said(w, null); got != words[i] {
				t.Errorf("%s: %s, not %s", s, got, words[i])
			}
			if got := d.said(w, data); got != words[i]+`: a, "b", (1 . 2)` {
				t.Errorf("%s: %s", s, got)
			}
			// The property does not replace these words.
			d.give(w, "error-message", d.text("other"))
		}
	}
}

// P8.3: data, which are shown escaped.
func TestMessages(t *testing.T) {
	d := newDesk(t, 1000)
	d.give(d.intern("own"), "error-message", d.text("My own"))
	d.give(d.intern("silent"), "error-message", d.text(""))
	for s, want := range map[string]string{
		"(wrong-type-argument listp 1)": "Wrong type argument: listp, 1", "(quit)": "Quit", "(quit nil)": "Quit: nil", "(quit 1)": "Quit: 1", `(end-of-file "a b" a\ b)`: `End of file during parsing: "a b", a\ b`, "(args-out-of-range [1 2] 5)": "Args out of range: [1 2], 5", "(void-variable 'a)": "Symbol's value as variable is void: 'a", `(quit "a" "b")`: `Quit: "a", "b"`,
		`(error "no")`: "no", `(error "no" "x")`: `no: "x"`, `(error "no" 1 a "b\"")`: `no: 1, a, "b\""`, "(error 1)": "error: 1", `(error 1 "no")`: `error: 1, "no"`, "(error)": "error", "(error nil)": "error: nil", `(error "")`: "", `(error "" "")`: `: ""`, `(error ("no"))`: `error: ("no")`, `(error "a b\"c")`: `a b"c`, "(error no)": "error: no",
		`(user-error "u")`: "u", `(user-error "u" 2)`: "u: 2", "(user-error)": "user error", "(user-error u)": "user error: u",
		"(own)": "My own", "(own 1 2)": "My own: 1, 2", `(own "a")`: `My own: "a"`, "(silent)": "", "(silent 1)": ": 1",
		"(other)": "peculiar error", "(other 1)": "peculiar error: 1", `(other "a")`: `peculiar error: "a"`, "(nil 1)": "peculiar error: 1", "(t)": "peculiar error", "(lambda)": "peculiar error",
		`(5 1 "a")`: `peculiar error: 1, "a"`, `("error" "no")`: `peculiar error: "no"`, "((error))": "peculiar error", "([error] 1)": "peculiar error: 1",
		"(error 1 . 2)": "error", `(error "no" . 2)`: "error", `(user-error "no" "x" . 2)`: "user error", "(quit . 1)": "Quit", `(error . "no")`: "error", "(other . x)": "peculiar error", "(own 1 . 2)": "My own", "(own . [1])": "My own",
	} {
		w := d.read(s)
		parts := contentOf(d.h, w).parts
		if got := d.said(parts[0], parts[1]); got != want {
			t.Errorf("%s: %s, not %s", s, got, want)
		}
		if got := d.shown(w, api.OK); got != s {
			t.Errorf("%s became %s", s, got)
		}
	}
}

// P8.3: the property error-message.
func TestMessageProperty(t *testing.T) {
	d := newDesk(t, 1000)
	a := d.intern("a")
	if err := d.n.SetProp(a.N, api.SymNil, d.text("no")); err != api.OK {
		t.Fatal(err)
	}
	if err := d.n.SetProp(a.N, d.fresh("error-message").N, d.text("no")); err != api.OK {
		t.Fatal(err)
	}
	if got := d.said(a, null); got != "peculiar error" {
		t.Error("without the symbol of the property:", got)
	}
	for _, w := range []api.Word{number(1), null, a, d.list(d.text("no")), d.vector(), d.code(), dead(api.KindText), {Kind: -1}} {
		d.give(a, "error-message", w)
		if got := d.said(a, d.list(number(1))); got != "peculiar error: 1" {
			t.Errorf("the property %v: %s", w, got)
		}
	}
	for _, w := range []api.Word{a, null, truth, symbol(api.SymLambda), d.fresh("error")} {
		d.give(w, "error-message", d.text("\u20ac \"x\""))
		if got := d.said(w, d.list(d.text("y"))); got != "\u20ac \"x\": \"y\"" {
			t.Errorf("%v: %s", w, got)
		}
	}
	for _, n := range []int{-1, least, most, api.MaxSyms} {
		if got := d.said(symbol(n), d.list(d.text("y"))); got != `peculiar error: "y"` {
			t.Errorf("%d: %s", n, got)
		}
	}
}

// P8.3: conditions that are not symbols, and data that are not lists.
func TestOtherSignals(t *testing.T) {
	d := newDesk(t, 1000)
	one := d.list(number(1))
	for _, w := range []api.Word{{}, number(api.SymError), d.text("error"), one, dead(api.KindText), {Kind: api.KindPrim, N: api.SymError}, {Kind: -1}} {
		if got := d.said(w, one); got != "peculiar error: 1" {
			t.Errorf("%v: %s", w, got)
		}
	}
	text := d.text("no")
	for _, w := range []api.Word{{}, number(1), text, d.vector(text), d.ring(text), d.cons(text, d.ring(text)), dead(api.KindCons), d.dotted(dead(api.KindCons), text), d.dotted(null, dead(api.KindCons)), {Kind: -1}} {
		want := "error"
		if len(d.elements(w)) == 1 {
			want = "error 6"
		}
		if got := d.said(symbol(api.SymError), w); got != want {
			t.Errorf("the data %v: %s", w, got)
		}
	}
	if got, err := forms.Message(d.h, d.n, api.Signal{}); got != "peculiar error" || err != api.OK {
		t.Error("no signal:", got, err)
	}
}

// P8.3: data that have no text.
func TestMessageErrors(t *testing.T) {
	d := newDesk(t, 1000)
	deep := number(1)
	for range api.MaxNest + 1 {
		deep = d.list(deep)
	}
	broken := map[api.Word]string{dead(api.KindCons): "error 6", dead(api.KindText): "error 6", {Kind: -1}: "error 6", symbol(-1): "error 8", {Kind: api.KindPrim, N: api.MaxSyms}: "error 8", deep: "error 12", d.ring(null): "error 4", d.list(symbol(-1)): "error 8"}
	for w, want := range broken {
		for _, l := range [][]api.Word{{w}, {number(1), w}, {w, symbol(-1)}, {d.text("a"), w}, {d.text("a"), w, dead(api.KindVec)}} {
			for _, cond := range []int{api.SymError, api.SymUserError, api.SymQuit, 70, -1} {
				if got := d.said(symbol(cond), d.list(l...)); got != want {
					t.Errorf("%v with %v: %s, not %s", cond, l, got, want)
				}
			}
		}
	}
	for _, p := range invalid(d) {
		for _, s := range []api.Signal{{}, {Cond: symbol(api.SymError), Data: null}, {Cond: symbol(api.SymQuit), Data: d.list(symbol(-1))}} {
			if got, err := forms.Message(p.h, p.n, s); got != "" || err != api.ErrNil {
				t.Error(s, got, err)
			}
		}
	}
}

// P8.3: messages of MaxChars characters, and of one more.
func TestLongMessages(t *testing.T) {
	d := newDesk(t, 1000)
	failure, bad := symbol(api.SymError), symbol(-1)
	filled := func(length int) api.Word { return d.text(strings.Repeat("\u20ac", length)) }
	own := d.intern("own")
	for _, front := range []int{0, 1, 5, 1000, 32768, api.MaxChars - 5, api.MaxChars} {
		d.give(own, "error-message", filled(front))
		// A colon, a blank, a comma, a blank and four quotes belong to two strings.
		for _, more := range []int{0, 1} {
			left := api.MaxChars - front - 8 + more
			for _, second := range []int{0, 1, left / 2, left} {
				if left < second || second < 0 {
					continue
				}
				want := api.MaxChars
				if more > 0 {
					want = 0
				}
				x, y := filled(left-second), filled(second)
				d.hasLength(want, failure, filled(front), x, y)
				d.hasLength(want, own, x, y)
				d.h.Collect([]api.Word{d.property(own)})
			}
		}
	}
	// Without further data, every message has its place.
	d.hasLength(api.MaxChars, failure, filled(api.MaxChars))
	d.give(own, "error-message", filled(api.MaxChars))
	d.hasLength(api.MaxChars, own)
	for _, l := range [][]api.Word{{number(1)}, {number(1), bad}, {d.text(""), bad}} {
		if got := d.said(own, d.list(l...)); got != "error 4" {
			t.Error(got)
		}
	}
	// The text of a datum comes before the length of the message up to its end.
	for _, w := range []api.Word{bad, d.list(bad)} {
		if got := d.said(own, d.list(w)); got != "error 8" {
			t.Error(got)
		}
		if got := d.said(own, d.list(number(1), w)); got != "error 4" {
			t.Error(got)
		}
	}
	if got := d.said(failure, d.list(d.list(filled(api.MaxChars), bad))); got != "error 4" {
		t.Error(got)
	}
}

// property returns the error message of a symbol.
func (d desk) property(w api.Word) api.Word {
	x, _ := d.n.Prop(w.N, d.intern("error-message").N)
	return x
}

// hasLength checks the length of a message in characters; 0 stands for a message that is
// too long.
func (d desk) hasLength(want int, cond api.Word, data ...api.Word) {
	d.t.Helper()
	s, err := forms.Message(d.h, d.n, api.Signal{Cond: cond, Data: d.list(data...)})
	if n := len([]rune(s)); n != want || (err == api.OK) != (want > 0) || want == 0 && err != api.ErrLong {
		d.t.Errorf("%d characters, %v, not %d", n, err, want)
	}
}

// P8.3: many data, each of which is shown as layer 6 shows it.
func TestManyData(t *testing.T) {
	d := newDesk(t, api.MaxObjects)
	// Three characters of each datum, and two before the first one instead.
	var l []api.Word
	for range (api.MaxChars - len("Quit")) / 3 {
		l = append(l, number(len(l)%10))
	}
	text, err := show.Text(d.h, d.n, d.list(l...), true)
	want := "Quit: " + strings.ReplaceAll(strings.Trim(text, "()"), " ", ", ")
	if got := d.said(symbol(api.SymQuit), d.list(l...)); err != api.OK || got != want {
		t.Error(len(got), len(want), err)
	}
	if got := d.said(symbol(api.SymQuit), d.list(append(l, number(1))...)); got != "error 4" {
		t.Error(len(got))
	}
}
