package forms_test

import (
	"slices"
	"testing"

	"copyist/api"
	"copyist/heap"
	"copyist/names"
	"copyist/read"
	"copyist/show"
)

// The least and the greatest int.
const (
	least = -1 << 63
	most  = 1<<63 - 1
)

// null is the Lisp's nil, truth its t.
var (
	null  = symbol(api.SymNil)
	truth = symbol(api.SymT)
)

func number(n int) api.Word { return api.Word{Kind: api.KindInt, N: n} }

func symbol(n int) api.Word { return api.Word{Kind: api.KindSym, N: n} }

// dead returns an object of a kind that no heap of the tests has.
func dead(kind int) api.Word { return api.Word{Kind: kind, N: api.MaxObjects} }

// desk is where words are read and shown.
type desk struct {
	t *testing.T
	h *heap.Heap
	n *names.Table
}

// newDesk returns a desk with room for limit objects.
func newDesk(t *testing.T, limit int) desk {
	t.Helper()
	h, err := heap.New(limit)
	if err != api.OK {
		t.Fatalf("New(%d): %v", limit, err)
	}
	return desk{t, h, names.New()}
}

// copied returns a desk with copies of the heap and the table.
func (d desk) copied() desk { return desk{d.t, d.h.Copy(), d.n.Copy()} }

// read creates the word that a text describes.
func (d desk) read(s string) api.Word {
	d.t.Helper()
	w, _, fault := read.Read(d.h, d.n, s, 0)
	if fault.Err != api.OK {
		d.t.Fatalf("%s: %v", s, fault)
	}
	return w
}

// intern returns the symbol with a name.
func (d desk) intern(s string) api.Word {
	d.t.Helper()
	n, err := d.n.Intern(s)
	if err != api.OK {
		d.t.Fatalf("%s: %v", s, err)
	}
	return symbol(n)
}

// fresh returns a new symbol with a name that is not interned.
func (d desk) fresh(s string) api.Word {
	d.t.Helper()
	n, err := d.n.Fresh(s)
	if err != api.OK {
		d.t.Fatalf("%s: %v", s, err)
	}
	return symbol(n)
}

// created returns the word of a new object.
func (d desk) created(w api.Word, err api.Errno) api.Word {
	d.t.Helper()
	if err != api.OK {
		d.t.Fatal("an object was not created:", err)
	}
	return w
}

func (d desk) cons(a, b api.Word) api.Word { d.t.Helper(); return d.created(d.h.Cons(a, b)) }

func (d desk) vector(l ...api.Word) api.Word { d.t.Helper(); return d.created(d.h.Vec(l)) }

func (d desk) text(s string) api.Word { d.t.Helper(); return d.created(d.h.Text(s)) }

func (d desk) code() api.Word { d.t.Helper(); return d.created(d.h.Code(api.Code{})) }

func (d desk) list(l ...api.Word) api.Word { d.t.Helper(); return d.dotted(null, l...) }

// dotted creates a list that ends with tail.
func (d desk) dotted(tail api.Word, l ...api.Word) api.Word {
	d.t.Helper()
	for _, x := range slices.Backward(l) {
		tail = d.cons(x, tail)
	}
	return tail
}

// ring creates a list whose last cdr is the list itself.
func (d desk) ring(l ...api.Word) api.Word {
	d.t.Helper()
	last := d.cons(l[len(l)-1], null)
	w := d.dotted(last, l[:len(l)-1]...)
	if err := d.h.SetCdr(last, w); err != api.OK {
		d.t.Fatal(err)
	}
	return w
}

// give sets a property of a symbol.
func (d desk) give(w api.Word, key string, value api.Word) {
	d.t.Helper()
	if err := d.n.SetProp(w.N, d.intern(key).N, value); err != api.OK {
		d.t.Fatal(err)
	}
}

// shown returns the text of a result, or its error.
func (d desk) shown(w api.Word, err api.Errno) string {
	d.t.Helper()
	if err != api.OK {
		if w != (api.Word{}) {
			d.t.Errorf("with %v: the word %v", err, w)
		}
		return err.Error()
	}
	s, err := show.Text(d.h, d.n, w, true)
	if err != api.OK {
		d.t.Errorf("the result %v has no text: %v", w, err)
	}
	return s
}

// content is what an object consists of.
type content struct {
	text  string
	parts []api.Word
}

// objects returns the content of every object of a heap.
func objects(h *heap.Heap) map[api.Word]content {
	all := map[api.Word]content{}
	for n := range h.Limit() {
		for _, kind := range []int{api.KindCons, api.KindText, api.KindVec, api.KindCode} {
			w := api.Word{Kind: kind, N: n}
			if h.Live(w) {
				all[w] = contentOf(h, w)
			}
		}
	}
	return all
}

func contentOf(h *heap.Heap, w api.Word) content {
	var c content
	c.text, _ = h.TextOf(w)
	c.parts, _ = h.VecOf(w)
	if w.Kind == api.KindCons {
		a, _ := h.Car(w)
		b, _ := h.Cdr(w)
		c.parts = []api.Word{a, b}
	}
	return c
}

// alike reports whether contents are the same.
func alike(a, b content) bool { return a.text == b.text && slices.Equal(a.parts, b.parts) }

// symbols returns the names of the symbols from first on.
func (d desk) symbols(first int) []string {
	var l []string
	for n := first; n < d.n.Many(); n++ {
		s, _ := d.n.Name(n)
		l = append(l, s)
	}
	return l
}

// tableFor returns a table with room for some symbols.
func tableFor(free int) *names.Table {
	n := names.New()
	for n.Many() < api.MaxSyms-free {
		n.Fresh("")
	}
	return n
}

// places are a heap and a table of which one is invalid, or both.
type places struct {
	h *heap.Heap
	n *names.Table
}

// invalid lists heaps and tables that were not made by New or Copy.
func invalid(d desk) []places {
	return []places{{nil, d.n}, {&heap.Heap{}, d.n}, {d.h, nil}, {d.h, &names.Table{}}, {nil, nil}, {&heap.Heap{}, &names.Table{}}}
}
