package lists_test

import (
	"maps"
	"slices"
	"strconv"
	"testing"

	"copyist/api"
	"copyist/heap"
	"copyist/lists"
)

// P7.2: lists of words, created from the last cons to the first.
func TestMake(t *testing.T) {
	d := newDesk(t, 10)
	for _, l := range [][]api.Word{nil, {}, {number(1)}, {null}, {number(1), number(2), number(3)}, {dead(api.KindCons), {Kind: -1}, number(least), null}} {
		d.h.Collect(nil)
		w, err := lists.Make(d.h, l)
		if err != api.OK || d.h.Many() != len(l) {
			t.Fatalf("Make(%v) = %v, %v, and %d objects", l, w, err, d.h.Many())
		}
		for i, x := range l {
			car, _ := d.h.Car(w)
			if w != (api.Word{Kind: api.KindCons, N: len(l) - 1 - i}) || car != x {
				t.Errorf("Make(%v) has %v with the car %v at %d", l, w, car, i)
			}
			w, _ = d.h.Cdr(w)
		}
		if w != null {
			t.Errorf("Make(%v) ends with %v", l, w)
		}
	}
}

// P7.2: as many elements as a list and a heap can have, and one more.
func TestMakeLimits(t *testing.T) {
	d := newDesk(t, api.MaxObjects)
	for _, n := range []int{api.MaxChars + 1, api.MaxChars + 2, 100000} {
		if got := d.shown(lists.Make(d.h, make([]api.Word, n))); got != api.ErrLong.Error() || d.h.Many() != 0 {
			t.Errorf("Make of %d words: %s", n, got)
		}
	}
	w, err := lists.Make(d.h, make([]api.Word, api.MaxChars))
	if n, e := lists.Length(d.h, w); err != api.OK || n != api.MaxChars || e != api.OK {
		t.Errorf("%v, %v; %d, %v", w, err, n, e)
	}
	d = newDesk(t, 3)
	for n, want := range []string{"nil", "(0)", "(0 0)", "(0 0 0)", "error 7", "error 7"} {
		d.h.Collect(nil)
		if got := d.shown(lists.Make(d.h, make([]api.Word, n))); got != want || n > 3 && d.h.Many() != 0 {
			t.Errorf("Make of %d words: %s, and %d objects", n, got, d.h.Many())
		}
	}
	if got := d.shown(lists.Make(d.h, make([]api.Word, api.MaxChars+1))); got != "error 4" {
		t.Error("too many words for the list and for the heap:", got)
	}
}

// P7.2: the elements of lists, and how many they are.
func TestSlice(t *testing.T) {
	d := newDesk(t, 100)
	for s, want := range map[string][]api.Word{"nil": nil, "(1)": {number(1)}, "(1 nil 2)": {number(1), null, number(2)}, "(1 t . (2))": {number(1), symbol(api.SymT), number(2)}} {
		w := d.read(s)
		l, err := lists.Slice(d.h, w)
		if err != api.OK || !slices.Equal(l, want) {
			t.Errorf("Slice(%s) = %v, %v", s, l, err)
		}
		clear(l)
		if got := d.shown(w, api.OK); got != d.shown(d.read(s), api.OK) {
			t.Errorf("%s became %s with its slice", s, got)
		}
		if n, err := lists.Length(d.h, w); n != len(want) || err != api.OK {
			t.Errorf("Length(%s) = %d, %v", s, n, err)
		}
	}
	w := d.cons(dead(api.KindCons), null)
	if l, err := lists.Slice(d.h, w); err != api.OK || !slices.Equal(l, []api.Word{dead(api.KindCons)}) {
		t.Error(l, err)
	}
}

// P7.2, and with it P7.3, P7.4 and P7.6: words that are no proper lists, for every
// function that needs one.
func TestImproper(t *testing.T) {
	d := newDesk(t, 100)
	bad := map[api.Word]api.Errno{
		number(0): api.ErrType, number(1): api.ErrType, symbol(1): api.ErrType, symbol(-1): api.ErrType, {Kind: api.KindPrim}: api.ErrType, {Kind: -1}: api.ErrType, {Kind: 11}: api.ErrType,
		d.text("a"): api.ErrType, d.vector(number(1)): api.ErrType, d.code(): api.ErrType, dead(api.KindCons): api.ErrType, dead(api.KindVec): api.ErrType, {Kind: api.KindCons, N: -1}: api.ErrType,
		d.ring(number(1)): api.ErrLoop, d.ring(number(1), number(2), number(3)): api.ErrLoop,
	}
	for w, want := range maps.Clone(bad) {
		bad[d.cons(number(1), w)] = want
		bad[d.list(w, number(1), number(2), number(3))] = want
	}
	before := objects(d.h)
	for w, want := range bad {
		for name, f := range needing() {
			if x, err := f(d.h, w); x != (api.Word{}) || err != want {
				t.Errorf("%s(%v) = %v, %v, not %v", name, w, x, err, want)
			}
		}
	}
	if !maps.EqualFunc(objects(d.h), before, slices.Equal) {
		t.Error("an error changed the heap")
	}
}

// P7.2, and with it P7.3, P7.4 and P7.6: lists of MaxChars conses, the most that a heap
// can have.
func TestLongLists(t *testing.T) {
	d := newDesk(t, api.MaxObjects)
	w := d.list(null, make([]api.Word, api.MaxChars)...)
	first := d.cdr(w, api.MaxChars-1)
	for name, f := range needing() {
		want, reason := w, api.OK
		if creating()[name] != nil {
			want, reason = api.Word{}, api.ErrFull
		} else if looking()[name] != nil {
			want = null
		} else if deleting()[name] == nil {
			want = number(api.MaxChars)
		}
		if x, err := f(d.h, w); x != want || err != reason {
			t.Errorf("%s of a long list: %v, %v", name, x, err)
		}
	}
	for end, want := range map[api.Word]api.Errno{number(1): api.ErrType, dead(api.KindCons): api.ErrType, first: api.ErrLoop, w: api.ErrLoop} {
		if err := d.h.SetCdr(first, end); err != api.OK {
			t.Fatal(err)
		}
		for name, f := range needing() {
			if x, err := f(d.h, w); x != (api.Word{}) || err != want {
				t.Errorf("%s of a long list with the end %v: %v, %v, not %v", name, end, x, err, want)
			}
		}
	}
}

// cdr returns w after its cdr was taken n times.
func (d desk) cdr(w api.Word, n int) api.Word {
	d.t.Helper()
	for range n {
		w = d.created(d.h.Cdr(w))
	}
	return w
}

// P7.2: tails and elements.
func TestTail(t *testing.T) {
	d := newDesk(t, 100)
	for _, c := range []struct {
		list      string
		n         int
		tail, nth string
	}{
		{"(1 2 3)", 0, "(1 2 3)", "1"}, {"(1 2 3)", 1, "(2 3)", "2"}, {"(1 2 3)", 2, "(3)", "3"}, {"(1 2 3)", 3, "nil", "nil"}, {"(1 2 3)", 4, "nil", "nil"}, {"(1 2 3)", 9, "nil", "nil"}, {"(1 2 3)", api.MaxChars, "nil", "nil"},
		{"(1 2 3)", -1, "error 3", "error 3"}, {"(1 2 3)", api.MaxChars + 1, "error 3", "error 3"}, {"(1 2 3)", most, "error 3", "error 3"}, {"(1 2 3)", least, "error 3", "error 3"},
		{"nil", 0, "nil", "nil"}, {"nil", 1, "nil", "nil"}, {"nil", api.MaxChars, "nil", "nil"}, {"nil", -1, "error 3", "error 3"},
		{"5", 0, "5", "error 6"}, {"5", 1, "error 6", "error 6"}, {"5", -1, "error 3", "error 3"}, {"5", api.MaxChars + 1, "error 3", "error 3"}, {"t", 1, "error 6", "error 6"}, {`"a"`, 0, `"a"`, "error 6"}, {"[1 2]", 1, "error 6", "error 6"},
		{"(1 . 2)", 0, "(1 . 2)", "1"}, {"(1 . 2)", 1, "2", "error 6"}, {"(1 . 2)", 2, "error 6", "error 6"}, {"(1 2 . [3])", 2, "[3]", "error 6"}, {"(1 2 . [3])", api.MaxChars, "error 6", "error 6"},
		{"((1) (2))", 1, "((2))", "(2)"},
	} {
		w := d.read(c.list)
		if tail, nth := d.shown(lists.Tail(d.h, w, c.n)), d.shown(lists.Nth(d.h, w, c.n)); tail != c.tail || nth != c.nth {
			t.Errorf("%s at %d: %s and %s, not %s and %s", c.list, c.n, tail, nth, c.tail, c.nth)
		}
	}
	w := d.read("(1 2 3)")
	if got, err := lists.Tail(d.h, w, 2); err != api.OK || got != d.cdr(w, 2) {
		t.Error("the tail is not one of the list's own conses")
	}
}

// P7.2: tails of circular lists, and of words that are not live.
func TestTailOfOthers(t *testing.T) {
	d := newDesk(t, 100)
	w := d.ring(number(1), number(2), number(3))
	for n, want := range map[int]int{0: 0, 1: 1, 2: 2, 3: 0, 4: 1, api.MaxChars: api.MaxChars % 3} {
		if got, err := lists.Tail(d.h, w, n); err != api.OK || got != d.cdr(w, want) {
			t.Errorf("Tail %d: %v, %v", n, got, err)
		}
		if got, err := lists.Nth(d.h, w, n); err != api.OK || got != number(want+1) {
			t.Errorf("Nth %d: %v, %v", n, got, err)
		}
	}
	for _, w := range []api.Word{dead(api.KindCons), {Kind: -1, N: 5}, d.text("a")} {
		if got, err := lists.Tail(d.h, w, 0); err != api.OK || got != w {
			t.Errorf("Tail(%v, 0) = %v, %v", w, got, err)
		}
		if got, err := lists.Tail(d.h, d.cons(null, w), 1); err != api.OK || got != w {
			t.Errorf("the cdr %v: %v, %v", w, got, err)
		}
		for _, n := range []int{0, 1} {
			if got, err := lists.Nth(d.h, w, n); err != api.ErrType || got != (api.Word{}) {
				t.Errorf("Nth(%v, %d) = %v, %v", w, n, got, err)
			}
		}
		if got, err := lists.Tail(d.h, w, 1); err != api.ErrType || got != (api.Word{}) {
			t.Errorf("Tail(%v, 1) = %v, %v", w, got, err)
		}
	}
}

// P7.2: lists of the elements of others.
func TestCreating(t *testing.T) {
	d := newDesk(t, 200)
	d.cases(func(a, b api.Word) (api.Word, api.Errno) { return lists.Append(d.h, a, b) },
		[3]string{"nil", "nil", "nil"}, [3]string{"nil", "(1)", "(1)"}, [3]string{"nil", "5", "5"}, [3]string{"(1 2)", "nil", "(1 2)"}, [3]string{"(1 2)", "(3 4)", "(1 2 3 4)"}, [3]string{"(1 2)", "(3 . 4)", "(1 2 3 . 4)"},
		[3]string{"(1)", "5", "(1 . 5)"}, [3]string{"(1)", "[2]", "(1 . [2])"}, [3]string{"(1 . 2)", "nil", "error 6"}, [3]string{"5", "nil", "error 6"}, [3]string{"\"a\"", "nil", "error 6"})
	for s, turned := range map[string]string{"nil": "nil", "(1)": "(1)", "(1 2)": "(2 1)", "(1 2 3)": "(3 2 1)", "(nil (1 2) nil)": "(nil (1 2) nil)", "((1 2) t)": "(t (1 2))"} {
		w := d.read(s)
		if got := d.shown(lists.Reverse(d.h, w)); got != turned {
			t.Errorf("Reverse(%s) = %s", s, got)
		}
		if got := d.shown(lists.Copy(d.h, w)); got != s {
			t.Errorf("Copy(%s) = %s", s, got)
		}
	}
}

// P7.2, and with it P7.3, P7.4 and P7.6: new conses, the last one first, and the list
// that they were created from is as it was.
func TestNewConses(t *testing.T) {
	for name, f := range creating() {
		d := newDesk(t, 100)
		w := d.list(null, number(1), number(2), number(3))
		want := map[string][]api.Word{
			"Reverse": {number(3), number(2), number(1), null}, "Append": {number(1), number(2), number(3), number(9)}, "Put": {number(1), number(2), number(3), number(0), number(0), null},
		}[name]
		if want == nil {
			want = []api.Word{number(1), number(2), number(3), null}
		}
		all := objects(d.h)
		got, err := f(d.h, w)
		rest := want[len(want)-1]
		for i, x := range slices.Backward(want[:len(want)-1]) {
			c := api.Word{Kind: api.KindCons, N: 3 + len(want) - 2 - i}
			all[c] = []api.Word{x, rest}
			rest = c
		}
		if err != api.OK || got != rest || !maps.EqualFunc(objects(d.h), all, slices.Equal) {
			t.Errorf("%s: %v, %v; %v", name, got, err, objects(d.h))
		}
	}
	d := newDesk(t, 10)
	b := d.read("(1)")
	if w, err := lists.Append(d.h, null, b); err != api.OK || w != b {
		t.Error("nothing is before the end:", w, err)
	}
	if w, err := lists.Append(d.h, b, b); err != api.OK || d.cdr(w, 1) != b {
		t.Error("the end is another list:", w, err)
	}
}

// P7.2, and with it P7.3, P7.4 and P7.6: heaps with just enough free numbers, and with
// one fewer.
func TestFull(t *testing.T) {
	for name, f := range creating() {
		for n := range 4 {
			need := n
			if name == "Put" {
				need += 2
			}
			for room := range need + 2 {
				d := newDesk(t, 10+n)
				w := d.list(null, slices.Repeat([]api.Word{number(1)}, n)...)
				for d.h.Limit()-d.h.Many() > room {
					d.cons(null, null)
				}
				before := objects(d.h)
				got, err := f(d.h, w)
				if room >= need {
					if err != api.OK || d.h.Many() != d.h.Limit()-room+need {
						t.Errorf("%s of %d with room for %d: %v, %v", name, n, room, got, err)
					}
				} else if err != api.ErrFull || got != (api.Word{}) || !maps.EqualFunc(objects(d.h), before, slices.Equal) {
					t.Errorf("%s of %d with room for %d: %v, %v", name, n, room, got, err)
				}
			}
		}
	}
}

// P7.1 to P7.6: invalid heaps come before every other error.
func TestInvalidHeaps(t *testing.T) {
	for name, h := range invalid() {
		for _, w := range []api.Word{null, number(1), {Kind: api.KindCons}, {Kind: api.KindText}} {
			for f, call := range needing() {
				if x, err := call(h, w); x != (api.Word{}) || err != api.ErrNil {
					t.Errorf("%s with the heap %s: %v, %v", f, name, x, err)
				}
			}
			same, err := lists.Equal(h, w, w)
			less, err2 := lists.Less(h, w, w)
			n, err3 := lists.Hash(h, w)
			if same || less || n != 0 || err != api.ErrNil || err2 != api.ErrNil || err3 != api.ErrNil {
				t.Error(name, w, same, less, n, err, err2, err3)
			}
			for _, n := range []int{-1, 0, 1, most} {
				x, err := lists.Tail(h, w, n)
				y, err2 := lists.Nth(h, w, n)
				if x != (api.Word{}) || y != (api.Word{}) || err != api.ErrNil || err2 != api.ErrNil {
					t.Error(name, w, n, x, y, err, err2)
				}
			}
			if x, is := lists.Get(h, w, w); x != (api.Word{}) || is {
				t.Error(name, w, x, is)
			}
		}
		for _, n := range []int{0, 1, api.MaxChars + 1} {
			if w, err := lists.Make(h, make([]api.Word, n)); w != (api.Word{}) || err != api.ErrNil {
				t.Error(name, n, w, err)
			}
		}
	}
}

// P7.2: an argument that is a slice is not changed.
func TestMakeKeepsItsArgument(t *testing.T) {
	h, err := heap.New(10)
	if err != api.OK {
		t.Fatal(err)
	}
	l := []api.Word{number(3), number(1), number(2)}
	w, err := lists.Make(h, l)
	l[0] = null
	if !slices.Equal(l, []api.Word{null, number(1), number(2)}) {
		t.Error("Make changed its argument to " + strconv.Itoa(len(l)) + " other words")
	}
	if got, e := lists.Slice(h, w); err != api.OK || e != api.OK || !slices.Equal(got, []api.Word{number(3), number(1), number(2)}) {
		t.Error(got, err, e)
	}
}
