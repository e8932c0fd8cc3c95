package heap_test

import (
	"testing"

	"copyist/api"
	"copyist/heap"
)

// P2.3
func TestLive(t *testing.T) {
	h, words := zoo(t, 10)
	numbers := []int{0, 1, 2, 3, 4, 9, 10, -1, least, most, 1 << 32, 1<<32 + 1}
	for _, n := range numbers {
		for _, kind := range []int{api.KindInt, api.KindSym, api.KindPrim, api.KindBuffer, api.KindMarker, api.KindOver, api.KindWindow} {
			if w := (api.Word{Kind: kind, N: n}); !h.Live(w) {
				t.Errorf("%v is not live", w)
			}
		}
		for _, kind := range []int{-1, -2, 11, 12, least, most, 1<<32 + api.KindCons, 1 << 32} {
			if w := (api.Word{Kind: kind, N: n}); h.Live(w) {
				t.Errorf("%v is live", w)
			}
		}
		for _, kind := range stored() {
			w := api.Word{Kind: kind, N: n}
			if h.Live(w) != (words[kind] == w) {
				t.Errorf("Live(%v) = %v", w, h.Live(w))
			}
		}
	}
	h.Collect([]api.Word{words[api.KindVec]})
	for _, kind := range stored() {
		if h.Live(words[kind]) != (kind == api.KindVec) {
			t.Errorf("after Collect, Live(%v) = %v", words[kind], h.Live(words[kind]))
		}
	}
	// A number is freed for all kinds; the word of the old object stays dead.
	w := created(t)(h.Text("new"))
	if old := words[api.KindCons]; w.N != old.N || !h.Live(w) || h.Live(old) {
		t.Errorf("new %v: %v, old %v: %v", w, h.Live(w), old, h.Live(old))
	}
}

// P2.3: what each kind of object contains.
func TestReachable(t *testing.T) {
	makers := map[string]func(h *heap.Heap, w api.Word) (api.Word, api.Errno){
		"car":             func(h *heap.Heap, w api.Word) (api.Word, api.Errno) { return h.Cons(w, null) },
		"cdr":             func(h *heap.Heap, w api.Word) (api.Word, api.Errno) { return h.Cons(null, w) },
		"first element":   func(h *heap.Heap, w api.Word) (api.Word, api.Errno) { return h.Vec([]api.Word{w, null}) },
		"last element":    func(h *heap.Heap, w api.Word) (api.Word, api.Errno) { return h.Vec([]api.Word{null, null, w}) },
		"first constant":  func(h *heap.Heap, w api.Word) (api.Word, api.Errno) { return h.Code(constants(w, null)) },
		"second constant": func(h *heap.Heap, w api.Word) (api.Word, api.Errno) { return h.Code(constants(null, w)) },
	}
	for name, maker := range makers {
		for _, kind := range stored() {
			h, words := zoo(t, 10)
			holder := created(t)(maker(h, words[kind]))
			outer := created(t)(h.Cons(holder, holder))
			before := look(t, h, words[kind])
			// The zoo's other three objects are removed.
			if n := h.Collect([]api.Word{outer}); n != 3 || !h.Live(outer) || !h.Live(holder) || !h.Live(words[kind]) {
				t.Errorf("%s: %d removed; %v %v", name, n, words[kind], h.Live(words[kind]))
			}
			if !sameThing(look(t, h, words[kind]), before) {
				t.Errorf("%s: Collect changed %v", name, words[kind])
			}
			if n := h.Collect([]api.Word{words[kind]}); n != 2 || !h.Live(words[kind]) || h.Live(holder) {
				t.Errorf("%s: what contains a reachable object is no more reachable for that: %d", name, n)
			}
		}
	}
}

func constants(words ...api.Word) api.Code {
	// The bytes are numbers of objects too, but refer to nothing.
	return api.Code{Least: 1, Most: 2, Depth: 3, Bytes: []byte{0, 1, 2, 3}, Consts: words}
}

// P2.3: words that refer to nothing keep nothing alive, neither as roots nor in objects.
func TestRootsOfNothing(t *testing.T) {
	h, words := zoo(t, 10)
	var roots []api.Word
	for kind := -2; kind <= api.KindWindow+2; kind++ {
		for _, n := range []int{-1, 0, 1, 2, 3, 4, 9, 10, api.MaxObjects, least, most} {
			// The holder of these words has the number 4.
			if w := (api.Word{Kind: kind, N: n}); words[kind] != w && w != (api.Word{Kind: api.KindVec, N: 4}) {
				roots = append(roots, w)
			}
		}
	}
	holder := created(t)(h.Vec(roots))
	if n := h.Collect([]api.Word{holder}); n != 4 || h.Many() != 1 {
		t.Error("in a vector:", n, "removed")
	}
	if n := h.Collect(roots); n != 1 || h.Many() != 0 {
		t.Error("as roots:", n, "removed")
	}
}

// P2.3
func TestRoots(t *testing.T) {
	h, words := zoo(t, 10)
	v, c := words[api.KindVec], words[api.KindCons]
	if n := h.Collect([]api.Word{v, c, v, null, c}); n != 2 || !h.Live(v) || !h.Live(c) {
		t.Error("a root that is named twice:", n, "removed")
	}
	if n := h.Collect([]api.Word{v, c}); n != 0 || h.Many() != 2 {
		t.Error("nothing is left to be removed:", n)
	}
	if n := h.Collect([]api.Word{}); n != 2 || h.Many() != 0 {
		t.Error("without roots:", n, "removed")
	}
	if n := h.Collect(nil); n != 0 {
		t.Error("in an empty heap:", n, "removed")
	}
}

// P2.3, P2.4: objects that contain themselves are removed like others.
func TestCycles(t *testing.T) {
	h := empty(t, 10)
	ok := created(t)
	a := ok(h.Cons(null, null))
	b := ok(h.Vec([]api.Word{a}))
	c := ok(h.Code(constants(b)))
	h.SetCar(a, c)
	h.SetCdr(a, a)
	before := watch(t, h)
	for _, root := range []api.Word{a, b, c} {
		if n := h.Collect([]api.Word{root}); n != 0 || !watch(t, h).same(before) {
			t.Errorf("from %v: %d removed", root, n)
		}
	}
	if n := h.Collect([]api.Word{null}); n != 3 || h.Many() != 0 {
		t.Error("without roots:", n, "removed")
	}
}

// P2.3, P2.4: chains through all the objects that a heap can have.
func TestDeep(t *testing.T) {
	links := map[string]func(h *heap.Heap, w api.Word) (api.Word, api.Errno){
		"cars":    func(h *heap.Heap, w api.Word) (api.Word, api.Errno) { return h.Cons(w, w) },
		"cdrs":    func(h *heap.Heap, w api.Word) (api.Word, api.Errno) { return h.Cons(null, w) },
		"vectors": func(h *heap.Heap, w api.Word) (api.Word, api.Errno) { return h.Vec([]api.Word{w}) },
	}
	for name, link := range links {
		h := empty(t, api.MaxObjects)
		first := created(t)(h.Text("end"))
		last := first
		for h.Many() < api.MaxObjects {
			last = created(t)(link(h, last))
		}
		if n := h.Collect([]api.Word{last}); n != 0 || h.Many() != api.MaxObjects {
			t.Errorf("%s: %d removed", name, n)
		}
		if n := h.Collect([]api.Word{first}); n != api.MaxObjects-1 || h.Many() != 1 || h.Room() != api.MaxStore-3 {
			t.Errorf("%s: %d removed, room %d", name, n, h.Room())
		}
	}
}

// P2.3: a copy has the same objects under the same numbers, and what is done to one
// of the two heaps does not show in the other.
func TestCopy(t *testing.T) {
	h, words := zoo(t, 10)
	created(t)(h.Cons(number(8), words[api.KindText]))
	h.Collect([]api.Word{{Kind: api.KindCons, N: 4}, words[api.KindVec], words[api.KindCode]})
	before := watch(t, h)
	o := h.Copy()
	if !watch(t, o).same(before) || o.Limit() != 10 {
		t.Fatal("the copy differs")
	}
	change := func(h *heap.Heap) {
		h.SetCar(api.Word{Kind: api.KindCons, N: 4}, null)
		h.SetAt(words[api.KindVec], 0, null)
		for h.Many() < 7 {
			h.Text("more")
		}
		h.Collect([]api.Word{words[api.KindVec]})
	}
	change(o)
	if !watch(t, h).same(before) {
		t.Error("a change of the copy changed the heap")
	}
	if watch(t, o).same(before) {
		t.Error("the copy did not change")
	}
	o = h.Copy()
	change(h)
	if !watch(t, o).same(before) {
		t.Error("a change of the heap changed the copy")
	}
	// Both have the same free numbers.
	o = h.Copy()
	for h.Many() < 10 {
		w, e := h.Vec(nil)
		x, e2 := o.Vec(nil)
		if e != api.OK || e2 != api.OK || w != x {
			t.Errorf("the next object is %v, %v; of the copy %v, %v", w, e, x, e2)
		}
	}
	if _, e := o.Cons(null, null); e != api.ErrFull {
		t.Error("a full copy:", e)
	}
}

// P2.3: a copy of a copy, and of an empty heap.
func TestCopyOfCopy(t *testing.T) {
	h := empty(t, 2)
	o := h.Copy().Copy()
	if o.Limit() != 2 || o.Many() != 0 || o.Room() != api.MaxStore {
		t.Errorf("the copy of an empty heap: limit %d, %d objects, room %d", o.Limit(), o.Many(), o.Room())
	}
	created(t)(o.Text("abc"))
	if h.Many() != 0 || o.Many() != 1 || o.Copy().Room() != api.MaxStore-3 {
		t.Errorf("%d objects, the copy %d", h.Many(), o.Many())
	}
}
