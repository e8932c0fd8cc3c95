package heap_test

import (
	"slices"
	"testing"

	"copyist/api"
	"copyist/heap"
)

// others returns words that do not refer to objects of the kind: words of the other
// kinds, with the numbers of the zoo's objects, and words of the kind whose numbers
// no object or an object of another kind has.
func others(kind int, zoo map[int]api.Word) []api.Word {
	var l []api.Word
	for k := -2; k <= api.KindWindow+2; k++ {
		if k == kind {
			continue
		}
		for n := -1; n <= len(zoo); n++ {
			// Nil is an argument that Car and Cdr take.
			if w := (api.Word{Kind: k, N: n}); w != null {
				l = append(l, w)
			}
		}
	}
	for _, n := range []int{-1, -2, len(zoo), len(zoo) + 1, 9, 10, api.MaxObjects, least, most, 1<<32 + zoo[kind].N} {
		l = append(l, api.Word{Kind: kind, N: n})
	}
	for k, w := range zoo {
		if k != kind {
			l = append(l, api.Word{Kind: kind, N: w.N})
		}
	}
	return l
}

// P2.2
func TestCons(t *testing.T) {
	h, words := zoo(t, 10)
	w := words[api.KindCons]
	check := func(car, cdr api.Word) {
		t.Helper()
		a, e1 := h.Car(w)
		d, e2 := h.Cdr(w)
		if e1 != api.OK || e2 != api.OK || a != car || d != cdr {
			t.Errorf("car %v, %v, cdr %v, %v; not %v and %v", a, e1, d, e2, car, cdr)
		}
	}
	check(number(1), number(2))
	if e := h.SetCar(w, number(7)); e != api.OK {
		t.Error(e)
	}
	check(number(7), number(2))
	if e := h.SetCdr(w, w); e != api.OK {
		t.Error(e)
	}
	check(number(7), w)
	// Words that refer to nothing are stored as well.
	nothing := api.Word{Kind: 99, N: -1}
	if e := h.SetCar(w, nothing); e != api.OK {
		t.Error(e)
	}
	check(nothing, w)
}

// P2.2
func TestNil(t *testing.T) {
	h, _ := zoo(t, 10)
	before := watch(t, h)
	if w, e := h.Car(null); e != api.OK || w != null {
		t.Error("Car(nil):", w, e)
	}
	if w, e := h.Cdr(null); e != api.OK || w != null {
		t.Error("Cdr(nil):", w, e)
	}
	if e := h.SetCar(null, number(1)); e != api.ErrType {
		t.Error("SetCar(nil):", e)
	}
	if e := h.SetCdr(null, number(1)); e != api.ErrType {
		t.Error("SetCdr(nil):", e)
	}
	if w, e := h.Car(null); e != api.OK || w != null {
		t.Error("Car(nil) after SetCar(nil):", w, e)
	}
	if !watch(t, h).same(before) {
		t.Error("nil changed the heap")
	}
}

// P2.2
func TestConsOfOthers(t *testing.T) {
	h, words := zoo(t, 10)
	before := watch(t, h)
	for _, w := range others(api.KindCons, words) {
		if x, e := h.Car(w); e != api.ErrType || x != (api.Word{}) {
			t.Errorf("Car(%v): %v, %v", w, x, e)
		}
		if x, e := h.Cdr(w); e != api.ErrType || x != (api.Word{}) {
			t.Errorf("Cdr(%v): %v, %v", w, x, e)
		}
		if e := h.SetCar(w, number(9)); e != api.ErrType {
			t.Errorf("SetCar(%v): %v", w, e)
		}
		if e := h.SetCdr(w, number(9)); e != api.ErrType {
			t.Errorf("SetCdr(%v): %v", w, e)
		}
	}
	if !watch(t, h).same(before) {
		t.Error("an error changed the heap")
	}
}

// P2.2
func TestText(t *testing.T) {
	h := empty(t, 10)
	for _, s := range []string{"", "a", "a\u20acb", "\x00", "\U0010ffff\ufffd", "e\u0301"} {
		w := created(t)(h.Text(s))
		if x, e := h.TextOf(w); e != api.OK || x != s || w.Kind != api.KindText {
			t.Errorf("the string %q is %v with %q, %v", s, w, x, e)
		}
	}
}

// P2.2
func TestContentOfOthers(t *testing.T) {
	h, words := zoo(t, 10)
	before := watch(t, h)
	for _, w := range append(others(api.KindText, words), null) {
		if x, e := h.TextOf(w); e != api.ErrType || x != "" {
			t.Errorf("TextOf(%v): %q, %v", w, x, e)
		}
	}
	for _, w := range append(others(api.KindCode, words), null) {
		if x, e := h.CodeOf(w); e != api.ErrType || !sameCode(x, api.Code{}) {
			t.Errorf("CodeOf(%v): %v, %v", w, x, e)
		}
	}
	for _, w := range append(others(api.KindVec, words), null) {
		if l, e := h.VecOf(w); e != api.ErrType || len(l) != 0 {
			t.Errorf("VecOf(%v): %v, %v", w, l, e)
		}
		// The word is checked before the index.
		for _, i := range []int{0, 1, 2, -1} {
			if x, e := h.At(w, i); e != api.ErrType || x != (api.Word{}) {
				t.Errorf("At(%v, %d): %v, %v", w, i, x, e)
			}
			if e := h.SetAt(w, i, number(9)); e != api.ErrType {
				t.Errorf("SetAt(%v, %d): %v", w, i, e)
			}
		}
	}
	if !watch(t, h).same(before) {
		t.Error("an error changed the heap")
	}
}

// P2.2
func TestVec(t *testing.T) {
	h := empty(t, 10)
	ok := created(t)
	l := []api.Word{number(5), {Kind: 99, N: least}, null, {Kind: api.KindVec, N: 7}}
	w := ok(h.Vec(l))
	for i, want := range l {
		if x, e := h.At(w, i); e != api.OK || x != want {
			t.Errorf("element %d: %v, %v", i, x, e)
		}
	}
	for i := range l {
		l[i] = number(100 + i)
		if e := h.SetAt(w, i, l[i]); e != api.OK {
			t.Errorf("SetAt %d: %v", i, e)
		}
		if x, e := h.VecOf(w); e != api.OK || !slices.Equal(x, l) {
			t.Errorf("the vector is %v, %v, not %v", x, e, l)
		}
	}
	for _, i := range []int{-1, 4, 5, least, most, 1 << 32} {
		if x, e := h.At(w, i); e != api.ErrRange || x != (api.Word{}) {
			t.Errorf("At %d: %v, %v", i, x, e)
		}
		if e := h.SetAt(w, i, null); e != api.ErrRange {
			t.Errorf("SetAt %d: %v", i, e)
		}
	}
	if x, e := h.VecOf(w); e != api.OK || !slices.Equal(x, l) {
		t.Errorf("after errors the vector is %v, %v, not %v", x, e, l)
	}
	none := ok(h.Vec([]api.Word{}))
	if x, e := h.At(none, 0); e != api.ErrRange || x != (api.Word{}) {
		t.Error("At 0 of an empty vector:", x, e)
	}
	if e := h.SetAt(none, 0, null); e != api.ErrRange {
		t.Error("SetAt 0 of an empty vector:", e)
	}
	if x, e := h.VecOf(none); e != api.OK || len(x) != 0 {
		t.Error("an empty vector:", x, e)
	}
}

// P2.1, P2.2: code is not checked, whatever its contents.
func TestCode(t *testing.T) {
	h := empty(t, 10)
	for _, c := range []api.Code{
		{},
		{Least: 1, Most: 2, Depth: 3, Bytes: []byte{0, 255, 7}, Consts: []api.Word{null, {Kind: 99, N: -1}}},
		{Least: least, Most: most, Depth: -1},
		{Least: 5, Most: -1, Bytes: []byte{200}},
		{Consts: []api.Word{{Kind: api.KindCode, N: 3}}},
	} {
		w := created(t)(h.Code(c))
		if x, e := h.CodeOf(w); e != api.OK || !sameCode(x, c) || w.Kind != api.KindCode {
			t.Errorf("the code %v is %v with %v, %v", c, w, x, e)
		}
	}
}

// R4: neither arguments nor results give access to an object.
func TestMemory(t *testing.T) {
	h := empty(t, 10)
	ok := created(t)
	l := []api.Word{number(1), number(2)}
	c := api.Code{Bytes: []byte{1, 2}, Consts: []api.Word{number(3)}}
	vec, code := ok(h.Vec(l)), ok(h.Code(c))
	before := watch(t, h)
	l[0] = null
	c.Bytes[1], c.Consts[0] = 9, null
	if !watch(t, h).same(before) {
		t.Error("a later change of an argument changed an object")
	}
	l, _ = h.VecOf(vec)
	l[1] = null
	c, _ = h.CodeOf(code)
	c.Bytes[0], c.Consts[0] = 9, null
	if !watch(t, h).same(before) {
		t.Error("a change of a result changed an object")
	}
	l, _ = h.VecOf(vec)
	h.SetAt(vec, 0, number(50))
	if l[0] != number(1) {
		t.Error("SetAt changed a result")
	}
	roots := []api.Word{code, vec}
	h.Collect(roots)
	if !slices.Equal(roots, []api.Word{code, vec}) {
		t.Error("Collect changed its argument")
	}
}

// P2.2, P2.3, R2: an invalid heap.
func TestInvalid(t *testing.T) {
	for name, h := range invalid() {
		for _, w := range []api.Word{null, number(0), {Kind: api.KindCons}, {Kind: api.KindText}, {Kind: api.KindVec}, {Kind: api.KindCode}, {Kind: 99}} {
			for call, e := range errnos(h, w) {
				if e != api.ErrNil {
					t.Errorf("%s: %s of %v: %v", name, call, w, e)
				}
			}
			if h.Live(w) {
				t.Errorf("%s: %v is live", name, w)
			}
		}
		if h.Many() != 0 || h.Limit() != 0 || h.Room() != 0 || h.Collect([]api.Word{null, {Kind: api.KindCons}}) != 0 {
			t.Errorf("%s: %d objects of %d, room %d", name, h.Many(), h.Limit(), h.Room())
		}
		if _, e := h.Copy().Cons(null, null); e != api.ErrNil {
			t.Errorf("%s: its copy is valid", name)
		}
	}
}

// errnos calls all the methods of h that report errors, with arguments of which
// many are wrong, and returns the errors of the calls whose other results are zero.
func errnos(h *heap.Heap, w api.Word) map[string]api.Errno {
	r := map[string]api.Errno{}
	word := func(name string, x api.Word, e api.Errno) {
		if r[name] = e; x != (api.Word{}) {
			r[name] = -1
		}
	}
	x, e := h.Cons(w, w)
	word("Cons", x, e)
	x, e = h.Car(w)
	word("Car", x, e)
	x, e = h.Cdr(w)
	word("Cdr", x, e)
	x, e = h.Text("\xff")
	word("Text", x, e)
	x, e = h.Vec(make([]api.Word, api.MaxChars+1))
	word("Vec", x, e)
	x, e = h.Code(api.Code{Bytes: make([]byte, api.MaxChars+1)})
	word("Code", x, e)
	x, e = h.At(w, -1)
	word("At", x, e)
	r["SetCar"], r["SetCdr"], r["SetAt"] = h.SetCar(w, w), h.SetCdr(w, w), h.SetAt(w, -1, w)
	s, e := h.TextOf(w)
	if r["TextOf"] = e; s != "" {
		r["TextOf"] = -1
	}
	l, e := h.VecOf(w)
	if r["VecOf"] = e; len(l) != 0 {
		r["VecOf"] = -1
	}
	c, e := h.CodeOf(w)
	if r["CodeOf"] = e; !sameCode(c, api.Code{}) {
		r["CodeOf"] = -1
	}
	return r
}
