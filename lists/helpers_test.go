package lists_test

import (
	"slices"
	"strings"
	"testing"

	"copyist/api"
	"copyist/heap"
	"copyist/lists"
	"copyist/names"
	"copyist/read"
	"copyist/show"
)

// The least and the greatest int.
const (
	least = -1 << 63
	most  = 1<<63 - 1
)

// null is the Lisp's nil.
var null = symbol(api.SymNil)

func number(n int) api.Word { return api.Word{Kind: api.KindInt, N: n} }

func symbol(n int) api.Word { return api.Word{Kind: api.KindSym, N: n} }

// dead returns an object of a kind that no heap of the tests has.
func dead(kind int) api.Word { return api.Word{Kind: kind, N: api.MaxObjects} }

// desk is where words are read and shown.
type desk struct {
	t *testing.T
	h *heap.Heap
	n *names.Table
}

// newDesk returns a desk with room for limit objects.
func newDesk(t *testing.T, limit int) desk {
	t.Helper()
	h, err := heap.New(limit)
	if err != api.OK {
		t.Fatalf("New(%d): %v", limit, err)
	}
	return desk{t, h, names.New()}
}

// read creates the word that a text describes.
func (d desk) read(s string) api.Word {
	d.t.Helper()
	w, _, fault := read.Read(d.h, d.n, s, 0)
	if fault.Err != api.OK {
		d.t.Fatalf("%s: %v", s, fault)
	}
	return w
}

// created returns the word of a new object.
func (d desk) created(w api.Word, err api.Errno) api.Word {
	d.t.Helper()
	if err != api.OK {
		d.t.Fatal("an object was not created:", err)
	}
	return w
}

func (d desk) cons(a, b api.Word) api.Word { d.t.Helper(); return d.created(d.h.Cons(a, b)) }

func (d desk) vector(l ...api.Word) api.Word { d.t.Helper(); return d.created(d.h.Vec(l)) }

func (d desk) text(s string) api.Word { d.t.Helper(); return d.created(d.h.Text(s)) }

func (d desk) code() api.Word { d.t.Helper(); return d.created(d.h.Code(api.Code{})) }

// list creates a list that ends with tail.
func (d desk) list(tail api.Word, l ...api.Word) api.Word {
	d.t.Helper()
	for _, x := range slices.Backward(l) {
		tail = d.cons(x, tail)
	}
	return tail
}

// ring creates a list whose last cdr is the list itself.
func (d desk) ring(l ...api.Word) api.Word {
	d.t.Helper()
	last := d.cons(l[len(l)-1], null)
	w := d.list(last, l[:len(l)-1]...)
	if err := d.h.SetCdr(last, w); err != api.OK {
		d.t.Fatal(err)
	}
	return w
}

// nested returns w in depth lists.
func (d desk) nested(w api.Word, depth int) api.Word {
	d.t.Helper()
	for range depth {
		w = d.list(null, w)
	}
	return w
}

// shown returns the text of a result, or its error.
func (d desk) shown(w api.Word, err api.Errno) string {
	d.t.Helper()
	if err != api.OK {
		if w != (api.Word{}) {
			d.t.Errorf("with %v: the word %v", err, w)
		}
		return err.Error()
	}
	s, err := show.Text(d.h, d.n, w, true)
	if err != api.OK {
		d.t.Errorf("the result %v has no text: %v", w, err)
	}
	return s
}

// objects returns the content of every object of a heap.
func objects(h *heap.Heap) map[api.Word][]api.Word {
	all := map[api.Word][]api.Word{}
	for n := range h.Limit() {
		for _, kind := range []int{api.KindCons, api.KindText, api.KindVec, api.KindCode} {
			w := api.Word{Kind: kind, N: n}
			if !h.Live(w) {
				continue
			}
			all[w], _ = h.VecOf(w)
			if kind == api.KindCons {
				a, _ := h.Car(w)
				b, _ := h.Cdr(w)
				all[w] = []api.Word{a, b}
			}
		}
	}
	return all
}

// invalid lists heaps that neither New nor Copy made.
func invalid() map[string]*heap.Heap { return map[string]*heap.Heap{"nil": nil, "zero": {}} }

// one is a function that has a list as its argument.
type one func(h *heap.Heap, w api.Word) (api.Word, api.Errno)

// two is a function that has a word and a list as its arguments.
type two func(h *heap.Heap, x, w api.Word) (api.Word, api.Errno)

// creating returns the functions that create a list from a list alone.
func creating() map[string]one {
	return map[string]one{
		"Reverse": lists.Reverse, "Copy": lists.Copy, "Sorted": lists.Sorted,
		"Append": func(h *heap.Heap, w api.Word) (api.Word, api.Errno) { return lists.Append(h, w, number(9)) },
		"Remove": func(h *heap.Heap, w api.Word) (api.Word, api.Errno) {
			return lists.Remove(h, symbol(api.SymT), w)
		},
		"Put": func(h *heap.Heap, w api.Word) (api.Word, api.Errno) {
			return lists.Put(h, w, number(0), number(0))
		},
	}
}

// looking returns the functions that look for an element.
func looking() map[string]two {
	return map[string]two{"Memq": lists.Memq, "Member": lists.Member, "Assq": lists.Assq, "Assoc": lists.Assoc}
}

// deleting returns the functions that change the conses of a list.
func deleting() map[string]two { return map[string]two{"Delq": lists.Delq, "Delete": lists.Delete} }

// needing returns all functions that need a whole proper list; those that look for an
// element do not find it.
func needing() map[string]one {
	all := creating()
	for name, f := range looking() {
		all[name] = func(h *heap.Heap, w api.Word) (api.Word, api.Errno) { return f(h, symbol(api.SymT), w) }
	}
	for name, f := range deleting() {
		all[name] = func(h *heap.Heap, w api.Word) (api.Word, api.Errno) { return f(h, symbol(api.SymT), w) }
	}
	all["Slice"] = func(h *heap.Heap, w api.Word) (api.Word, api.Errno) {
		l, err := lists.Slice(h, w)
		return number(len(l)), err
	}
	all["Length"] = func(h *heap.Heap, w api.Word) (api.Word, api.Errno) {
		n, err := lists.Length(h, w)
		return number(n), err
	}
	return all
}

// cases checks results that are given as texts.
func (d desk) cases(f func(x, w api.Word) (api.Word, api.Errno), l ...[3]string) {
	d.t.Helper()
	for _, c := range l {
		if got := d.shown(f(d.read(c[0]), d.read(c[1]))); got != c[2] {
			d.t.Errorf("%s: %s, not %s", strings.Join(c[:2], " and "), got, c[2])
		}
	}
}
