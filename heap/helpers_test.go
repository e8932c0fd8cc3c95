package heap_test

import (
	"slices"
	"testing"

	"copyist/api"
	"copyist/heap"
)

// null is the Lisp's nil.
var null = api.Word{Kind: api.KindSym, N: api.SymNil}

// The least and the greatest int.
const (
	least = -1 << 63
	most  = 1<<63 - 1
)

func number(n int) api.Word { return api.Word{Kind: api.KindInt, N: n} }

// stored lists the kinds of the words that refer to objects of a heap.
func stored() []int { return []int{api.KindCons, api.KindText, api.KindVec, api.KindCode} }

// created returns a function that returns the word of a new object and fails the
// test if there was an error.
func created(t *testing.T) func(api.Word, api.Errno) api.Word {
	return func(w api.Word, e api.Errno) api.Word {
		t.Helper()
		if e != api.OK {
			t.Fatal("an object was not created:", e)
		}
		return w
	}
}

// empty returns a new heap.
func empty(t *testing.T, limit int) *heap.Heap {
	t.Helper()
	h, e := heap.New(limit)
	if e != api.OK {
		t.Fatalf("New(%d): %v", limit, e)
	}
	return h
}

// zoo returns a heap with an object of each kind, and their words by their kinds.
func zoo(t *testing.T, limit int) (*heap.Heap, map[int]api.Word) {
	t.Helper()
	h := empty(t, limit)
	ok := created(t)
	return h, map[int]api.Word{
		api.KindCons: ok(h.Cons(number(1), number(2))),
		api.KindText: ok(h.Text("a\u20acb")),
		api.KindVec:  ok(h.Vec([]api.Word{number(3), number(4)})),
		api.KindCode: ok(h.Code(api.Code{Least: 1, Most: 2, Depth: 3, Bytes: []byte{4, 5}, Consts: []api.Word{number(6)}})),
	}
}

// invalid lists heaps that neither New nor Copy made.
func invalid() map[string]*heap.Heap { return map[string]*heap.Heap{"nil": nil, "zero": {}} }

// thing is all that can be seen of an object.
type thing struct {
	word     api.Word
	car, cdr api.Word
	text     string
	elements []api.Word
	code     api.Code
}

func sameCode(a, b api.Code) bool {
	return a.Least == b.Least && a.Most == b.Most && a.Depth == b.Depth && slices.Equal(a.Bytes, b.Bytes) && slices.Equal(a.Consts, b.Consts)
}

func sameThing(a, b thing) bool {
	return a.word == b.word && a.car == b.car && a.cdr == b.cdr && a.text == b.text && slices.Equal(a.elements, b.elements) && sameCode(a.code, b.code)
}

// look returns what can be seen of the object that w refers to.
func look(t *testing.T, h *heap.Heap, w api.Word) thing {
	t.Helper()
	x := thing{word: w}
	var e, e2 api.Errno
	switch w.Kind {
	case api.KindCons:
		x.car, e = h.Car(w)
		x.cdr, e2 = h.Cdr(w)
	case api.KindText:
		x.text, e = h.TextOf(w)
	case api.KindVec:
		x.elements, e = h.VecOf(w)
	case api.KindCode:
		x.code, e = h.CodeOf(w)
	}
	if e != api.OK || e2 != api.OK {
		t.Fatalf("the content of %v: %v, %v", w, e, e2)
	}
	// The content must stay as it was seen, even if the heap gives away its memory.
	x.elements, x.code.Bytes, x.code.Consts = slices.Clone(x.elements), slices.Clone(x.code.Bytes), slices.Clone(x.code.Consts)
	return x
}

// state is all that can be seen of a heap.
type state struct {
	limit, many, room int
	things            []thing
}

// watch returns all that can be seen of h.
func watch(t *testing.T, h *heap.Heap) state {
	t.Helper()
	s := state{limit: h.Limit(), many: h.Many(), room: h.Room()}
	for n := range h.Limit() {
		for _, kind := range stored() {
			if w := (api.Word{Kind: kind, N: n}); h.Live(w) {
				s.things = append(s.things, look(t, h, w))
			}
		}
	}
	return s
}

func (s state) same(o state) bool {
	return s.limit == o.limit && s.many == o.many && s.room == o.room && slices.EqualFunc(s.things, o.things, sameThing)
}
