package lists_test

import (
	"slices"
	"strings"
	"testing"

	"copyist/api"
	"copyist/lists"
)

// equals checks the result of Equal, in both orders.
func (d desk) equals(a, b api.Word, want bool, reason api.Errno) {
	d.t.Helper()
	for _, p := range [][2]api.Word{{a, b}, {b, a}} {
		if got, err := lists.Equal(d.h, p[0], p[1]); got != want || err != reason {
			d.t.Errorf("Equal(%v, %v) = %t, %v, not %t, %v", p[0], p[1], got, err, want, reason)
		}
	}
}

// P7.1: Eql compares words, not contents.
func TestEql(t *testing.T) {
	d := newDesk(t, 100)
	l := []api.Word{number(0), number(1), number(-1), symbol(0), symbol(1), {Kind: -1}, {Kind: 11}, {Kind: api.KindWindow}, dead(api.KindCons), d.read(`"a"`), d.read(`"a"`), d.read("(1)"), d.read("(1)"), d.read("[]"), d.read("[]")}
	for i, a := range l {
		for j, b := range l {
			if got := lists.Eql(a, b); got != (i == j) {
				t.Errorf("Eql(%v, %v) = %t", a, b, got)
			}
		}
	}
}

// P7.1: words with equal contents, and with others.
func TestEqual(t *testing.T) {
	d := newDesk(t, 20000)
	l := []string{
		"0", "1", "-1", "nil", "t", "a", `""`, `"a"`, `"A"`, `"b"`, `"aa"`, "\"\u20ac\"", "(a)", `("a")`, "(a . b)", "(a b)", "(a . a)", "((a))", "((a) . b)", "(b a)", "(a b c)", "(nil)", "(nil nil)",
		"[]", "[a]", "[b]", `["a"]`, "[a b]", "[a b c]", "[b a]", "[(a) b]", "[[]]", "[nil]", "([])", "(a . [b])", "(a [b])", "(a . \"b\")", `(1 "a" [2 (x . y)])`, `(1 "a" [2 (x . z)])`, "(quote a)",
	}
	for i, a := range l {
		for j, b := range l {
			d.equals(d.read(a), d.read(b), i == j, api.OK)
		}
	}
	d.equals(d.read("'a"), d.read("(quote a)"), true, api.OK)
	d.equals(d.read("()"), d.read("nil"), true, api.OK)
}

// P7.1: words without contents are equal only to themselves; so are dead ones.
func TestEqualAtoms(t *testing.T) {
	d := newDesk(t, 100)
	l := []api.Word{
		number(0), number(least), number(most), symbol(0), symbol(-1), {Kind: api.KindPrim}, {Kind: api.KindBuffer}, {Kind: api.KindMarker}, {Kind: api.KindOver}, {Kind: api.KindWindow}, {Kind: api.KindWindow, N: 1},
		dead(api.KindCons), dead(api.KindText), dead(api.KindVec), dead(api.KindCode), {Kind: api.KindCons, N: -1}, {Kind: -1}, {Kind: 11}, d.code(), d.code(), d.text("a"), d.cons(null, null), d.vector(null),
	}
	for i, a := range l {
		for j, b := range l {
			d.equals(a, b, i == j, api.OK)
			d.equals(d.cons(a, null), d.cons(b, null), i == j, api.OK)
			d.equals(d.cons(null, a), d.cons(null, b), i == j, api.OK)
			d.equals(d.vector(a), d.vector(b), i == j, api.OK)
			d.h.Collect(l)
		}
	}
}

// P7.1: a word whose number is that of an object of another kind is dead.
func TestEqualOtherKinds(t *testing.T) {
	d := newDesk(t, 100)
	for _, w := range []api.Word{d.text("a"), d.cons(null, null), d.vector(null), d.code()} {
		for kind := range 11 {
			d.equals(w, api.Word{Kind: kind, N: w.N}, kind == w.Kind, api.OK)
		}
	}
}

// P7.1: MaxNest levels, of cars and of vectors; a cdr is no level.
func TestEqualDepth(t *testing.T) {
	d := newDesk(t, 60000)
	for _, depth := range []int{1, api.MaxNest - 1, api.MaxNest, api.MaxNest + 1, 1000} {
		want := api.OK
		if depth > api.MaxNest {
			want = api.ErrDepth
		}
		a, b := d.nested(number(1), depth), d.nested(number(1), depth)
		d.equals(a, b, want == api.OK, want)
		d.equals(a, a, true, api.OK)
		d.equals(a, d.nested(number(2), depth), false, want)
		d.equals(d.cons(number(1), a), d.cons(number(2), b), false, api.OK)
		d.equals(d.cons(number(1), a), d.cons(number(1), b), want == api.OK, want)
		d.equals(d.vector(number(1), a), d.vector(number(2), b), false, api.OK)
		for range depth {
			a, b = d.vector(number(1), a), d.vector(number(1), b)
		}
		if 2*depth <= api.MaxNest {
			d.equals(a, b, true, api.OK)
		} else {
			d.equals(a, b, false, api.ErrDepth)
		}
	}
	a := d.nested(d.list(d.vector(), slices.Repeat([]api.Word{null}, 20000)...), api.MaxNest-1)
	b := d.nested(d.list(d.vector(), slices.Repeat([]api.Word{null}, 20000)...), api.MaxNest-1)
	d.equals(a, b, true, api.OK)
}

// padded returns two vectors whose last elements are a and b; Equal makes n comparisons
// before it compares these.
func (d desk) padded(n int, a, b api.Word) (api.Word, api.Word) {
	d.t.Helper()
	// Each of the parts that are used again takes 50,000 comparisons.
	part := slices.Repeat([]api.Word{number(1)}, 49999)
	x := slices.Repeat([]api.Word{d.vector(part...)}, (n-1)/50000)
	y := slices.Repeat([]api.Word{d.vector(part...)}, (n-1)/50000)
	l := slices.Repeat([]api.Word{number(1)}, (n-1)%50000)
	return d.vector(append(append(x, l...), a)...), d.vector(append(append(y, l...), b)...)
}

// P7.1: MaxPairs comparisons, and one more.
func TestEqualFuel(t *testing.T) {
	d := newDesk(t, 100)
	a, b := d.padded(api.MaxPairs-2, number(1), number(1))
	d.equals(a, b, true, api.OK)
	d.equals(d.vector(a), d.vector(b), true, api.OK)
	d.h.Collect(nil)
	a, b = d.padded(api.MaxPairs-1, number(1), number(1))
	d.equals(a, b, true, api.OK)
	d.equals(a, a, true, api.OK)
	d.equals(d.vector(a), d.vector(b), false, api.ErrFuel)
	d.equals(d.cons(null, a), d.cons(null, b), false, api.ErrFuel)
	d.equals(d.cons(a, null), d.cons(b, null), false, api.ErrFuel)
	d.equals(d.cons(a, number(1)), d.cons(b, number(2)), false, api.ErrFuel)
	d.equals(d.cons(number(1), a), d.cons(number(2), b), false, api.OK)
	d.h.Collect(nil)
	a, b = d.padded(api.MaxPairs-1, number(1), number(2))
	d.equals(a, b, false, api.OK)
	d.h.Collect(nil)
	a, b = d.padded(api.MaxPairs, number(1), number(2))
	d.equals(a, b, false, api.ErrFuel)
}

// P7.1: a list makes a comparison for itself, and two for each car and cdr.
func TestEqualFuelOfLists(t *testing.T) {
	d := newDesk(t, 100)
	l := slices.Repeat([]api.Word{number(1)}, 10)
	for before, want := range map[int]api.Errno{api.MaxPairs - 22: api.OK, api.MaxPairs - 21: api.OK, api.MaxPairs - 20: api.ErrFuel} {
		a, b := d.padded(before, d.list(null, l...), d.list(null, l...))
		d.equals(a, b, want == api.OK, want)
		d.h.Collect(nil)
	}
}

// P7.1: circular lists.
func TestEqualLoop(t *testing.T) {
	d := newDesk(t, 60000)
	a, b := d.ring(number(1)), d.ring(number(1))
	d.equals(a, a, true, api.OK)
	d.equals(a, b, false, api.ErrLoop)
	d.equals(a, d.ring(number(1), number(1), number(1)), false, api.ErrLoop)
	d.equals(a, d.ring(number(1), number(2)), false, api.OK)
	d.equals(a, d.list(null, slices.Repeat([]api.Word{number(1)}, 50000)...), false, api.OK)
	d.equals(d.list(a, number(1), number(1)), d.list(a, number(1), number(1)), true, api.OK)
	d.equals(a, d.list(a, number(1), number(1)), true, api.OK)
	c := d.ring(number(1), number(1))
	d.equals(c, d.list(c, number(1)), false, api.ErrLoop)
	d.equals(c, d.list(c, number(1), number(1)), true, api.OK)
	d.equals(d.cons(a, number(1)), d.cons(b, number(2)), false, api.ErrLoop)
	d.equals(d.cons(number(1), a), d.cons(number(2), b), false, api.OK)
	// Three comparisons for each cons are still fewer than MaxPairs, four are not.
	d.equals(d.ring(d.vector(null)), d.ring(d.vector(null)), false, api.ErrLoop)
	d.equals(d.ring(d.vector(null, null)), d.ring(d.vector(null, null)), false, api.ErrFuel)
	x, y := d.ring(null), d.ring(null)
	for _, w := range []api.Word{x, y} {
		if err := d.h.SetCar(w, w); err != api.OK {
			t.Fatal(err)
		}
	}
	d.equals(x, y, false, api.ErrDepth)
}

// P7.1: each list has cdrs of its own, also the one that a nested list interrupts.
func TestEqualCdrsOfOneList(t *testing.T) {
	d := newDesk(t, 10000)
	l := slices.Repeat([]api.Word{number(1)}, 1000)
	a, b := d.list(null, l...), d.list(null, l...)
	d.equals(d.list(null, slices.Repeat([]api.Word{a}, 90)...), d.list(null, slices.Repeat([]api.Word{b}, 90)...), true, api.OK)
	d.equals(d.ring(d.list(null)), d.ring(d.list(null)), false, api.ErrLoop)
	d.equals(d.ring(a), d.ring(b), false, api.ErrFuel)
	d.equals(d.list(null, d.ring(null), number(1)), d.list(null, d.ring(null), number(2)), false, api.ErrLoop)
}

// P7.1: of several limits the depth is checked first, then the comparisons, then the cdrs.
func TestEqualOrder(t *testing.T) {
	d := newDesk(t, 60000)
	for left, want := range map[int]api.Errno{api.MaxNest + 1: api.ErrDepth, api.MaxNest: api.ErrDepth, api.MaxNest - 1: api.ErrFuel} {
		a, b := d.padded(api.MaxPairs-left, d.nested(number(1), api.MaxNest), d.nested(number(1), api.MaxNest))
		d.equals(a, b, false, want)
		d.h.Collect(nil)
	}
	// Before the first cdr that is too many there are two comparisons for each cons.
	loop := 2 * (api.MaxChars + 1)
	for left, want := range map[int]api.Errno{loop + 1: api.ErrLoop, loop: api.ErrFuel, loop - 1: api.ErrFuel} {
		a, b := d.padded(api.MaxPairs-left, d.ring(number(1)), d.ring(number(1)))
		d.equals(a, b, false, want)
		d.h.Collect(nil)
	}
}

// P7.1: the first difference decides, whatever is behind it.
func TestEqualFirstDifference(t *testing.T) {
	d := newDesk(t, 10000)
	bad := d.nested(number(1), 300)
	worse := d.nested(number(1), 300)
	d.equals(d.list(null, number(1), bad), d.list(null, number(2), worse), false, api.OK)
	d.equals(d.list(null, bad, number(1)), d.list(null, worse, number(2)), false, api.ErrDepth)
	d.equals(d.list(bad, number(1)), d.list(worse, number(2)), false, api.OK)
	d.equals(d.vector(number(1), bad), d.vector(number(2), worse), false, api.OK)
	d.equals(d.vector(bad, number(1)), d.vector(worse, number(2)), false, api.ErrDepth)
	// The elements of vectors of different lengths are not compared.
	d.equals(d.vector(bad), d.vector(worse, number(1)), false, api.OK)
	d.equals(d.vector(bad), d.vector(), false, api.OK)
	full := slices.Repeat([]api.Word{number(1)}, api.MaxChars)
	d.equals(d.vector(full...), d.vector(full...), true, api.OK)
	d.equals(d.vector(append(slices.Clone(full[1:]), number(2))...), d.vector(full...), false, api.OK)
	d.equals(d.vector(append([]api.Word{bad}, full[1:]...)...), d.vector(append([]api.Word{worse}, full[2:]...)...), false, api.OK)
	d.equals(d.text(strings.Repeat("a", api.MaxChars)), d.text(strings.Repeat("a", api.MaxChars)), true, api.OK)
	d.equals(d.text(strings.Repeat("a", api.MaxChars)), d.text(strings.Repeat("a", api.MaxChars-1)+"b"), false, api.OK)
}
