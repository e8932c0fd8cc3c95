package lists_test

import (
	"maps"
	"slices"
	"testing"

	"copyist/api"
	"copyist/lists"
)

// P7.3: the first cons with a car.
func TestMember(t *testing.T) {
	d := newDesk(t, 2000)
	for name, f := range map[string]two{"Memq": lists.Memq, "Member": lists.Member} {
		find := func(x, w api.Word) (api.Word, api.Errno) { return f(d.h, x, w) }
		d.cases(find,
			[3]string{"a", "(a b c)", "(a b c)"}, [3]string{"b", "(a b c)", "(b c)"}, [3]string{"c", "(a b c)", "(c)"}, [3]string{"d", "(a b c)", "nil"}, [3]string{"a", "nil", "nil"}, [3]string{"a", "(b a c a)", "(a c a)"},
			[3]string{"nil", "(a nil b)", "(nil b)"}, [3]string{"2", "(1 2)", "(2)"}, [3]string{"a", "(b (a) [a])", "nil"}, [3]string{"a", "((a . b))", "nil"},
			[3]string{"a", "(a . b)", "(a . b)"}, [3]string{"b", "(a . b)", "error 6"}, [3]string{"b", "(a b . c)", "(b . c)"}, [3]string{"c", "(a b . c)", "error 6"}, [3]string{"a", "a", "error 6"}, [3]string{"a", "[a]", "error 6"}, [3]string{"1", "\"1\"", "error 6"})
		want := map[string]string{"Memq": "nil", "Member": `("x" b)`}[name]
		d.cases(find, [3]string{`"x"`, `(a "x" b)`, want})
		want = map[string]string{"Memq": "nil", "Member": "([1 (2)] (1 2))"}[name]
		d.cases(find, [3]string{"[1 (2)]", "([1 2] [1 (2)] (1 2))", want})
		want = map[string]string{"Memq": "error 6", "Member": `("x" . b)`}[name]
		d.cases(find, [3]string{`"x"`, `(a "x" . b)`, want})
	}
	w := d.read("(a b c)")
	for name, f := range map[string]two{"Memq": lists.Memq, "Member": lists.Member} {
		if got, err := f(d.h, d.read("b"), w); err != api.OK || got != d.cdr(w, 1) {
			t.Errorf("%s does not return a cons of the list", name)
		}
	}
}

// P7.3: the first element with a car; elements that are no conses are skipped.
func TestAssoc(t *testing.T) {
	d := newDesk(t, 2000)
	for name, f := range map[string]two{"Assq": lists.Assq, "Assoc": lists.Assoc} {
		find := func(x, w api.Word) (api.Word, api.Errno) { return f(d.h, x, w) }
		d.cases(find,
			[3]string{"a", "((a . 1) (b . 2))", "(a . 1)"}, [3]string{"b", "((a . 1) b (b . 2))", "(b . 2)"}, [3]string{"b", "((a . 1) [b 1] (b) (b . 2))", "(b)"}, [3]string{"c", "((a . 1) (b . 2))", "nil"}, [3]string{"a", "nil", "nil"},
			[3]string{"nil", "(nil (a) (nil . 3))", "(nil . 3)"}, [3]string{"nil", "(nil (a))", "nil"}, [3]string{"1", "(1 (a . 1) ((1) . 1) (1 2))", "(1 2)"},
			[3]string{"a", "((a . 1) . b)", "(a . 1)"}, [3]string{"b", "((a . 1) . b)", "error 6"}, [3]string{"a", "(a . 1)", "error 6"}, [3]string{"a", "a", "error 6"}, [3]string{"a", "[(a)]", "error 6"})
		want := map[string]string{"Assq": "nil", "Assoc": `("x" . 1)`}[name]
		d.cases(find, [3]string{`"x"`, `("x" ("x" . 1) ("x" . 2))`, want})
		want = map[string]string{"Assq": "nil", "Assoc": "((1) . 7)"}[name]
		d.cases(find, [3]string{"(1)", "((2) ((1) . 7))", want})
		e := d.read("(a 1)")
		if got, err := f(d.h, d.read("a"), d.list(null, number(1), e, d.read("(a 1)"))); err != api.OK || got != e {
			t.Errorf("%s does not return an element of the list", name)
		}
	}
}

// P7.3: words that are not live are found as well, but are no conses.
func TestFindDead(t *testing.T) {
	d := newDesk(t, 100)
	bad := dead(api.KindCons)
	for name, f := range looking() {
		entries := name == "Assq" || name == "Assoc"
		for _, x := range []api.Word{bad, {Kind: 12, N: 3}, number(least), d.code()} {
			w := d.list(null, bad, dead(api.KindVec), d.cons(x, number(1)), x)
			want := d.cdr(w, 3)
			if x == bad {
				want = w
			}
			if entries {
				want = d.created(d.h.Car(d.cdr(w, 2)))
			}
			if got, err := f(d.h, x, w); err != api.OK || got != want {
				t.Errorf("%s(%v): %v, %v, not %v", name, x, got, err, want)
			}
		}
	}
}

// P7.3: circular lists have an error only for what they do not contain.
func TestFindInRings(t *testing.T) {
	d := newDesk(t, 100)
	w := d.list(d.ring(number(1), d.read("(5)"), d.read("(3 . 4)")), number(7))
	for name, f := range looking() {
		x, want := number(1), d.cdr(w, 1)
		if name == "Assq" || name == "Assoc" {
			x, want = number(3), d.created(d.h.Car(d.cdr(w, 3)))
		}
		if got, err := f(d.h, x, w); err != api.OK || got != want {
			t.Errorf("%s: %v, %v", name, got, err)
		}
		if got, err := f(d.h, number(8), w); err != api.ErrLoop || got != (api.Word{}) {
			t.Errorf("%s of what is not there: %v, %v", name, got, err)
		}
	}
}

// P7.3: the last of MaxChars conses is examined, and none behind it.
func TestFindLast(t *testing.T) {
	d := newDesk(t, api.MaxObjects)
	l := make([]api.Word, api.MaxChars-1)
	l[len(l)-1] = number(2)
	w := d.list(null, append(l, number(3))...)
	last := d.cdr(w, api.MaxChars-1)
	for _, end := range []api.Word{null, number(1), w, last} {
		if err := d.h.SetCdr(last, end); err != api.OK {
			t.Fatal(err)
		}
		for name, f := range map[string]two{"Memq": lists.Memq, "Member": lists.Member} {
			if got, err := f(d.h, number(3), w); err != api.OK || got != last {
				t.Errorf("%s with the end %v: %v, %v", name, end, got, err)
			}
		}
	}
}

// P7.3: the errors of Equal for an element, unless another one was found before.
func TestFindErrors(t *testing.T) {
	d := newDesk(t, 3000)
	deep := func() api.Word { return d.nested(number(1), 300) }
	x := deep()
	for name, f := range map[string]two{"Member": lists.Member, "Assoc": lists.Assoc} {
		wrap := func(w api.Word) api.Word { return w }
		if name == "Assoc" {
			wrap = func(w api.Word) api.Word { return d.cons(w, null) }
		}
		check := func(w, want api.Word, reason api.Errno) {
			t.Helper()
			if got, err := f(d.h, x, w); got != want || err != reason {
				t.Errorf("%s: %v, %v, not %v, %v", name, got, err, want, reason)
			}
		}
		check(d.list(null, number(1), wrap(deep())), api.Word{}, api.ErrDepth)
		check(d.list(number(2), number(1), wrap(deep())), api.Word{}, api.ErrDepth)
		check(d.list(number(2), number(1), wrap(d.vector())), api.Word{}, api.ErrType)
		check(d.list(number(2), number(1), wrap(number(3)), wrap(d.nested(number(1), 100))), api.Word{}, api.ErrType)
		e := wrap(x)
		w := d.list(null, number(1), e, wrap(deep()))
		want := d.cdr(w, 1)
		if name == "Assoc" {
			want = e
		}
		check(w, want, api.OK)
		d.h.Collect([]api.Word{x})
	}
}

// P7.3: deletion from a list, whose own conses are what is returned.
func TestDelete(t *testing.T) {
	d := newDesk(t, 3000)
	for name, f := range map[string]two{"Delq": lists.Delq, "Delete": lists.Delete, "Remove": lists.Remove} {
		without := func(x, w api.Word) (api.Word, api.Errno) { return f(d.h, x, w) }
		d.cases(without,
			[3]string{"1", "(1 2 1 3 1)", "(2 3)"}, [3]string{"1", "(1)", "nil"}, [3]string{"1", "(1 1 1)", "nil"}, [3]string{"1", "nil", "nil"}, [3]string{"1", "(2 3)", "(2 3)"}, [3]string{"1", "(2 1 1 3)", "(2 3)"}, [3]string{"nil", "(nil a nil)", "(a)"},
			[3]string{"1", "((1) [1] 1)", "((1) [1])"}, [3]string{"1", "(1 . 1)", "error 6"}, [3]string{"1", "1", "error 6"}, [3]string{"1", "(1 2 . [1])", "error 6"})
		want := map[string]string{"Delq": `("a" (1) [] b)`, "Delete": "((1) [] b)", "Remove": "((1) [] b)"}[name]
		d.cases(without, [3]string{`"a"`, `("a" (1) [] b)`, want})
		want = map[string]string{"Delq": `("a" (1) [] b)`, "Delete": `("a" [] b)`, "Remove": `("a" [] b)`}[name]
		d.cases(without, [3]string{"(1)", `("a" (1) [] b)`, want})
	}
}

// P7.3: only cdrs of the conses that stay are changed; for an error nothing is.
func TestDeleteEffect(t *testing.T) {
	for name, f := range map[string]two{"Delq": lists.Delq, "Delete": lists.Delete} {
		d := newDesk(t, 1000)
		for _, l := range [][]int{{}, {1}, {2}, {1, 2}, {2, 1}, {1, 1, 2, 2}, {2, 1, 1, 2, 1}, {1, 2, 2, 1, 2}, {2, 2, 2}, {1, 1}} {
			d.h.Collect(nil)
			words := make([]api.Word, len(l))
			for i, n := range l {
				words[i] = number(n)
			}
			w := d.list(null, words...)
			all := objects(d.h)
			rest := null
			for i, n := range slices.Backward(l) {
				if c := d.cdr(w, i); n == 2 {
					all[c] = []api.Word{number(2), rest}
					rest = c
				}
			}
			if got, err := f(d.h, number(1), w); err != api.OK || got != rest || !maps.EqualFunc(objects(d.h), all, slices.Equal) {
				t.Errorf("%s from %v: %v, %v; %v, not %v", name, l, got, err, objects(d.h), all)
			}
		}
	}
}

// P7.3: the error of the list comes before that of Equal, and that before a full heap.
func TestDeleteErrors(t *testing.T) {
	d := newDesk(t, 2000)
	deep := func() api.Word { return d.nested(number(1), 300) }
	x, y := deep(), deep()
	proper := d.list(null, number(1), x, y, number(2))
	improper := d.list(number(3), number(1), x, y)
	ring := d.ring(number(1), x, y)
	for d.h.Many() < d.h.Limit() {
		d.cons(null, null)
	}
	before := objects(d.h)
	for name, f := range map[string]two{"Delete": lists.Delete, "Remove": lists.Remove} {
		for w, want := range map[api.Word]api.Errno{proper: api.ErrDepth, improper: api.ErrType, ring: api.ErrLoop} {
			if got, err := f(d.h, x, w); got != (api.Word{}) || err != want {
				t.Errorf("%s: %v, %v, not %v", name, got, err, want)
			}
		}
	}
	if got, err := lists.Remove(d.h, number(1), proper); got != (api.Word{}) || err != api.ErrFull {
		t.Error("a full heap:", got, err)
	}
	if !maps.EqualFunc(objects(d.h), before, slices.Equal) {
		t.Error("an error changed the heap")
	}
	if got, err := lists.Delq(d.h, x, proper); err != api.OK || got != proper {
		t.Error("Delq makes no comparison within words:", got, err)
	}
	if l, err := lists.Slice(d.h, proper); err != api.OK || !slices.Equal(l, []api.Word{number(1), y, number(2)}) {
		t.Error(l, err)
	}
}

// P7.3: Remove needs conses only for what stays.
func TestRemoveRoom(t *testing.T) {
	d := newDesk(t, 8)
	w := d.list(null, number(1), number(1), number(2), number(1), number(2), number(1))
	if got, err := lists.Remove(d.h, number(1), w); err != api.OK || d.shown(got, err) != "(2 2)" || d.h.Many() != 8 {
		t.Error(got, err)
	}
	if got, err := lists.Remove(d.h, number(2), w); err != api.ErrFull || got != (api.Word{}) {
		t.Error(got, err)
	}
}

// P7.3: the comparisons of all elements are counted together; those that are not made
// because an element was found are not counted.
func TestSharedFuel(t *testing.T) {
	for name, f := range map[string]two{"Member": lists.Member, "Assoc": lists.Assoc, "Delete": lists.Delete, "Remove": lists.Remove} {
		d := newDesk(t, 100)
		l := make([]api.Word, 49999)
		l[len(l)-1] = number(1)
		x := d.vector(l...)
		l[len(l)-1] = number(2)
		y := d.vector(l...) // takes 50,000 comparisons
		check := func(want api.Errno, words ...api.Word) {
			t.Helper()
			if name == "Assoc" {
				for i, w := range words {
					words[i] = d.cons(w, null)
				}
			}
			got, err := f(d.h, x, d.list(null, words...))
			if err != want || (got == api.Word{}) != (want != api.OK) {
				t.Errorf("%s of %d elements: %v, %v, not %v", name, len(words), got, err, want)
			}
		}
		check(api.OK, y, y, y, y)
		check(api.ErrFuel, y, y, y, y, y)
		check(api.ErrFuel, y, y, y, y, number(1))
		check(api.ErrFuel, number(1), y, y, y, y)
		check(api.ErrFuel, y, y, y, y, x)
		check(api.OK, y, y, y, number(1), x)
		behind := api.OK
		if name == "Delete" || name == "Remove" {
			behind = api.ErrFuel
		}
		check(behind, y, y, y, number(1), x, y, y)
	}
}

// P7.3: of a circular list no element behind MaxChars conses is compared.
func TestNothingBehindMaxChars(t *testing.T) {
	d := newDesk(t, 5000)
	x := d.vector(number(1), number(1), number(1))
	three, four := d.vector(number(1), number(2), number(1)), d.vector(number(1), number(1), number(2))
	// Sixteen rounds are MaxChars conses and MaxPairs comparisons.
	for more, want := range []api.Errno{api.ErrLoop, api.ErrFuel} {
		words := slices.Repeat([]api.Word{three}, 4096)
		copy(words, slices.Repeat([]api.Word{four}, 212+more))
		w := d.ring(words...)
		if got, err := lists.Member(d.h, x, w); got != (api.Word{}) || err != want {
			t.Errorf("%v, %v, not %v", got, err, want)
		}
		d.h.Collect([]api.Word{x, three, four})
	}
}
