package heap_test

import (
	"slices"
	"strings"
	"testing"

	"copyist/api"
	"copyist/heap"
)

// P2.1
func TestNew(t *testing.T) {
	for _, limit := range []int{1, 2, 1000, api.MaxObjects - 1, api.MaxObjects} {
		h, e := heap.New(limit)
		if e != api.OK || h.Limit() != limit || h.Many() != 0 || h.Room() != api.MaxStore {
			t.Errorf("New(%d): %v, limit %d, %d objects, room %d", limit, e, h.Limit(), h.Many(), h.Room())
		}
		for _, kind := range stored() {
			for _, n := range []int{0, limit - 1} {
				if w := (api.Word{Kind: kind, N: n}); h.Live(w) {
					t.Errorf("a new heap has %v", w)
				}
			}
		}
	}
	for _, limit := range []int{0, -1, api.MaxObjects + 1, least, most} {
		if h, e := heap.New(limit); e != api.ErrRange || h != nil {
			t.Errorf("New(%d): %v, %v", limit, h, e)
		}
	}
}

// P2.1: the numbers count the objects of all kinds together.
func TestNumbers(t *testing.T) {
	h, words := zoo(t, 10)
	for n, kind := range stored() {
		if want := (api.Word{Kind: kind, N: n}); words[kind] != want {
			t.Errorf("object %d is %v, not %v", n, words[kind], want)
		}
	}
	ok := created(t)
	for n := 4; n < 10; n++ {
		ok(h.Text(""))
	}
	// Now 0, 2, 5 and 9 stay.
	roots := []api.Word{words[api.KindVec], {Kind: api.KindText, N: 9}, words[api.KindCons], {Kind: api.KindText, N: 5}}
	if n := h.Collect(roots); n != 6 {
		t.Fatal("Collect removed", n)
	}
	for _, want := range []int{1, 3, 4, 6, 7, 8} {
		if w := ok(h.Cons(null, null)); w.N != want || w.Kind != api.KindCons {
			t.Errorf("a new cons is %v, not number %d", w, want)
		}
	}
	if w, e := h.Cons(null, null); e != api.ErrFull || w != (api.Word{}) {
		t.Error("an 11th object of 10:", w, e)
	}
}

// P2.1: numbers that were freed by several collections are given out in order, and
// before numbers that were never used.
func TestFreedNumbers(t *testing.T) {
	h := empty(t, 100)
	ok := created(t)
	var words []api.Word
	for range 50 {
		words = append(words, ok(h.Cons(null, null)))
	}
	keep := func(stays func(n int) bool) {
		words = slices.DeleteFunc(words, func(w api.Word) bool { return !stays(w.N) })
		h.Collect(words)
	}
	keep(func(n int) bool { return n%7 != 3 })
	keep(func(n int) bool { return n%5 != 1 })
	keep(func(n int) bool { return n != 0 && n != 49 })
	for n := range 100 {
		if n < 49 && n != 0 && n%7 != 3 && n%5 != 1 {
			continue
		}
		if w := ok(h.Vec(nil)); w != (api.Word{Kind: api.KindVec, N: n}) {
			t.Fatalf("a new vector is %v, not number %d", w, n)
		}
	}
	if h.Many() != 100 {
		t.Error("objects:", h.Many())
	}
}

// P2.1
func TestCreateWithoutNumber(t *testing.T) {
	h, _ := zoo(t, 4)
	before := watch(t, h)
	calls := map[string]func() (api.Word, api.Errno){
		"Cons":       func() (api.Word, api.Errno) { return h.Cons(number(1), number(2)) },
		"Text":       func() (api.Word, api.Errno) { return h.Text("a") },
		"empty Text": func() (api.Word, api.Errno) { return h.Text("") },
		"Vec":        func() (api.Word, api.Errno) { return h.Vec([]api.Word{null}) },
		"empty Vec":  func() (api.Word, api.Errno) { return h.Vec(nil) },
		"Code":       func() (api.Word, api.Errno) { return h.Code(api.Code{Bytes: []byte{1}}) },
		"empty Code": func() (api.Word, api.Errno) { return h.Code(api.Code{}) },
	}
	for name, call := range calls {
		if w, e := call(); e != api.ErrFull || w != (api.Word{}) {
			t.Errorf("%s in a full heap: %v, %v", name, w, e)
		}
		// P2.4
		if !watch(t, h).same(before) {
			t.Fatalf("%s changed a full heap", name)
		}
	}
}

// P2.1: all of the errors of each function apply; the first one is returned.
func TestCreateErrorOrder(t *testing.T) {
	h := empty(t, 1)
	created(t)(h.Cons(null, null))
	long := strings.Repeat("a", api.MaxChars+1)
	for _, s := range []string{"\xff", "\xed\xa0\x80", "a\xc3", long + "\xff"} {
		if w, e := h.Text(s); e != api.ErrForm || w != (api.Word{}) {
			t.Errorf("Text of an invalid string of %d bytes: %v, %v", len(s), w, e)
		}
	}
	if w, e := h.Text(long); e != api.ErrLong || w != (api.Word{}) {
		t.Errorf("Text of MaxChars+1 characters: %v, %v", w, e)
	}
	if w, e := h.Vec(make([]api.Word, api.MaxChars+1)); e != api.ErrLong || w != (api.Word{}) {
		t.Errorf("Vec of MaxChars+1 elements: %v, %v", w, e)
	}
	for _, c := range []api.Code{{Bytes: make([]byte, api.MaxChars+1)}, {Consts: make([]api.Word, api.MaxChars+1)}} {
		if w, e := h.Code(c); e != api.ErrLong || w != (api.Word{}) {
			t.Errorf("Code of %d bytes and %d constants: %v, %v", len(c.Bytes), len(c.Consts), w, e)
		}
	}
}

// P2.1: the errors do not depend on the heap being full.
func TestCreateErrors(t *testing.T) {
	h := empty(t, 3)
	before := watch(t, h)
	if w, e := h.Text("a\xff"); e != api.ErrForm || w != (api.Word{}) {
		t.Errorf("Text of an invalid string: %v, %v", w, e)
	}
	if w, e := h.Text(strings.Repeat("a", api.MaxChars+1)); e != api.ErrLong || w != (api.Word{}) {
		t.Errorf("Text of MaxChars+1 characters: %v, %v", w, e)
	}
	if w, e := h.Vec(make([]api.Word, api.MaxChars+1)); e != api.ErrLong || w != (api.Word{}) {
		t.Errorf("Vec of MaxChars+1 elements: %v, %v", w, e)
	}
	for _, c := range []api.Code{{Bytes: make([]byte, api.MaxChars+1)}, {Consts: make([]api.Word, api.MaxChars+1)}} {
		if w, e := h.Code(c); e != api.ErrLong || w != (api.Word{}) {
			t.Errorf("Code of %d bytes and %d constants: %v, %v", len(c.Bytes), len(c.Consts), w, e)
		}
	}
	if !watch(t, h).same(before) {
		t.Error("an error changed the heap")
	}
}

// P2.1: the longest objects, whose sizes count characters, elements, and bytes and
// constants together.
func TestLongest(t *testing.T) {
	h := empty(t, 4)
	ok := created(t)
	room := api.MaxStore
	taken := func(what string, size int) {
		t.Helper()
		room -= size
		if h.Room() != room {
			t.Errorf("%s: room %d, not %d", what, h.Room(), room)
		}
	}
	long := strings.Repeat("\U0001f600", api.MaxChars)
	text := ok(h.Text(long))
	taken("text", api.MaxChars)
	if s, e := h.TextOf(text); e != api.OK || s != long {
		t.Error("a string of MaxChars characters:", len(s), e)
	}
	ok(h.Cons(text, text))
	taken("cons", 0)
	vec := ok(h.Vec(make([]api.Word, api.MaxChars)))
	taken("vector", api.MaxChars)
	if l, e := h.VecOf(vec); e != api.OK || len(l) != api.MaxChars {
		t.Error("a vector of MaxChars elements:", len(l), e)
	}
	code := ok(h.Code(api.Code{Bytes: make([]byte, api.MaxChars), Consts: make([]api.Word, api.MaxChars)}))
	taken("code", 2*api.MaxChars)
	if c, e := h.CodeOf(code); e != api.OK || len(c.Bytes) != api.MaxChars || len(c.Consts) != api.MaxChars {
		t.Error("code of MaxChars bytes and constants:", len(c.Bytes), len(c.Consts), e)
	}
}

// almost returns a heap whose objects leave the given room.
func almost(t *testing.T, room int) *heap.Heap {
	t.Helper()
	h := empty(t, 100)
	ok := created(t)
	for h.Room() > room+api.MaxChars {
		ok(h.Vec(make([]api.Word, api.MaxChars)))
	}
	ok(h.Text(strings.Repeat("\u00e9", h.Room()-room)))
	if h.Room() != room {
		t.Fatalf("room %d, not %d", h.Room(), room)
	}
	return h
}

// sized returns, by name, calls that each create an object of size n.
func sized(h *heap.Heap, n int) map[string]func() (api.Word, api.Errno) {
	return map[string]func() (api.Word, api.Errno){
		"Text": func() (api.Word, api.Errno) { return h.Text(strings.Repeat("\u20ac", n)) },
		"Vec":  func() (api.Word, api.Errno) { return h.Vec(make([]api.Word, n)) },
		"Code of bytes": func() (api.Word, api.Errno) {
			return h.Code(api.Code{Bytes: make([]byte, n)})
		},
		"Code of constants": func() (api.Word, api.Errno) {
			return h.Code(api.Code{Consts: make([]api.Word, n)})
		},
		"Code of both": func() (api.Word, api.Errno) {
			return h.Code(api.Code{Bytes: make([]byte, n-n/2), Consts: make([]api.Word, n/2)})
		},
	}
}

// P2.1: what is greater than the room does not fit, what is as great does.
func TestStore(t *testing.T) {
	for room := range 4 {
		h := almost(t, room)
		many := h.Many()
		for name, call := range sized(h, room+1) {
			if w, e := call(); e != api.ErrFull || w != (api.Word{}) {
				t.Errorf("%s of size %d into room %d: %v, %v", name, room+1, room, w, e)
			}
			// P2.4
			if h.Room() != room || h.Many() != many {
				t.Errorf("%s left room %d of %d, objects %d of %d", name, h.Room(), room, h.Many(), many)
			}
		}
		// A cons has no size, and objects without content have size 0.
		ok := created(t)
		ok(h.Cons(null, null))
		for _, call := range sized(h, 0) {
			ok(call())
		}
		if h.Room() != room || h.Many() != many+6 {
			t.Errorf("objects of size 0 left room %d of %d, objects %d of %d", h.Room(), room, h.Many(), many+6)
		}
	}
	for room := range 4 {
		for name := range sized(nil, 0) {
			h := almost(t, room)
			if _, e := sized(h, room)[name](); e != api.OK || h.Room() != 0 {
				t.Errorf("%s of size %d into the same room: %v, room %d", name, room, e, h.Room())
			}
		}
	}
}

// P2.1, P2.3: a collection gives back the sizes of what it removes.
func TestStoreAfterCollect(t *testing.T) {
	h := almost(t, 0)
	last := api.Word{Kind: api.KindText, N: h.Many() - 1}
	if n := h.Collect([]api.Word{last}); n != last.N || h.Many() != 1 || h.Room() != api.MaxStore-api.MaxChars {
		t.Errorf("%d removed, %d objects, room %d", n, h.Many(), h.Room())
	}
	if n := h.Collect(nil); n != 1 || h.Many() != 0 || h.Room() != api.MaxStore {
		t.Errorf("%d removed, %d objects, room %d", n, h.Many(), h.Room())
	}
	h, _ = zoo(t, 4)
	if h.Room() != api.MaxStore-3-2-3 {
		t.Error("room", h.Room())
	}
	if n := h.Collect(nil); n != 4 || h.Room() != api.MaxStore {
		t.Errorf("%d removed, room %d", n, h.Room())
	}
}

// P2.1: the greatest heap takes as many conses as it has numbers.
func TestMaxObjects(t *testing.T) {
	h := empty(t, api.MaxObjects)
	for n := range api.MaxObjects {
		if w, e := h.Cons(number(n), null); e != api.OK || w != (api.Word{Kind: api.KindCons, N: n}) {
			t.Fatalf("cons %d: %v, %v", n, w, e)
		}
	}
	if w, e := h.Cons(null, null); e != api.ErrFull || w != (api.Word{}) || h.Many() != api.MaxObjects {
		t.Errorf("a cons more: %v, %v; %d objects", w, e, h.Many())
	}
}
