package show_test

import (
	"slices"
	"strings"
	"testing"

	"copyist/api"
	"copyist/heap"
	"copyist/names"
	"copyist/show"
)

// The least and the greatest int.
const (
	least = -1 << 63
	most  = 1<<63 - 1
)

// null is the Lisp's nil.
var null = symbol(api.SymNil)

func number(n int) api.Word { return api.Word{Kind: api.KindInt, N: n} }

func symbol(n int) api.Word { return api.Word{Kind: api.KindSym, N: n} }

// strange is a symbol that no table of the tests has, dead an object that no heap of
// the tests has.
func strange() api.Word { return symbol(api.MaxSyms) }

func dead() api.Word { return api.Word{Kind: api.KindCons, N: api.MaxObjects - 1} }

// desk is where words are created and shown.
type desk struct {
	t *testing.T
	h *heap.Heap
	n *names.Table
}

// newDesk returns a desk with room for limit objects.
func newDesk(t *testing.T, limit int) desk {
	t.Helper()
	h, err := heap.New(limit)
	if err != api.OK {
		t.Fatalf("New(%d): %v", limit, err)
	}
	return desk{t, h, names.New()}
}

// created returns the word of a new object.
func (d desk) created(w api.Word, err api.Errno) api.Word {
	d.t.Helper()
	if err != api.OK {
		d.t.Fatal("an object was not created:", err)
	}
	return w
}

// named returns the word of a symbol of the table.
func (d desk) named(n int, err api.Errno) api.Word {
	d.t.Helper()
	if err != api.OK {
		d.t.Fatal("a symbol was not created:", err)
	}
	return symbol(n)
}

func (d desk) intern(s string) api.Word { d.t.Helper(); return d.named(d.n.Intern(s)) }

func (d desk) fresh(s string) api.Word { d.t.Helper(); return d.named(d.n.Fresh(s)) }

func (d desk) text(s string) api.Word { d.t.Helper(); return d.created(d.h.Text(s)) }

func (d desk) vector(l ...api.Word) api.Word { d.t.Helper(); return d.created(d.h.Vec(l)) }

func (d desk) cons(a, b api.Word) api.Word { d.t.Helper(); return d.created(d.h.Cons(a, b)) }

func (d desk) list(l ...api.Word) api.Word { d.t.Helper(); return d.dotted(null, l...) }

// dotted creates a list that ends with tail.
func (d desk) dotted(tail api.Word, l ...api.Word) api.Word {
	d.t.Helper()
	for _, x := range slices.Backward(l) {
		tail = d.cons(x, tail)
	}
	return tail
}

// nested returns w in depth lists.
func (d desk) nested(w api.Word, depth int) api.Word {
	for range depth {
		w = d.list(w)
	}
	return w
}

// ring returns a list of one element whose cdr is the list itself.
func (d desk) ring(x api.Word) api.Word {
	w := d.cons(x, null)
	if err := d.h.SetCdr(w, w); err != api.OK {
		d.t.Fatal(err)
	}
	return w
}

// brief returns the beginning of a text.
func brief(s string) string {
	if len(s) > 60 {
		return s[:60] + ".."
	}
	return s
}

// shows checks the two texts of w.
func (d desk) shows(w api.Word, escaped, plain string) {
	d.t.Helper()
	for escape, want := range map[bool]string{true: escaped, false: plain} {
		if got, err := show.Text(d.h, d.n, w, escape); err != api.OK || got != want {
			d.t.Errorf("Text(%v, %t) = %q, %v, not %q", w, escape, brief(got), err, brief(want))
		}
		if got, err := show.All(d.h, d.n, []api.Word{w}, escape); err != api.OK || got != want {
			d.t.Errorf("All({%v}, %t) = %q, %v, not %q", w, escape, brief(got), err, brief(want))
		}
	}
}

// same checks that s is both texts of w.
func (d desk) same(w api.Word, s string) {
	d.t.Helper()
	d.shows(w, s, s)
}

// fails checks that both texts of w are impossible for the reason want.
func (d desk) fails(w api.Word, want api.Errno) {
	d.t.Helper()
	for _, escape := range []bool{true, false} {
		if s, err := show.Text(d.h, d.n, w, escape); err != want || s != "" {
			d.t.Errorf("Text(%v, %t) = %q, %v, not %v", w, escape, brief(s), err, want)
		}
	}
	d.allFails(want, w)
}

// allFails checks that words have no text for the reason want.
func (d desk) allFails(want api.Errno, l ...api.Word) {
	d.t.Helper()
	for _, escape := range []bool{true, false} {
		if s, err := show.All(d.h, d.n, l, escape); err != want || s != "" {
			d.t.Errorf("All(%d words, %t) = %q, %v, not %v", len(l), escape, brief(s), err, want)
		}
	}
}

// filler returns a symbol whose two texts have length characters; it has at most
// MaxName of them.
func (d desk) filler(length int) api.Word {
	d.t.Helper()
	return d.intern(strings.Repeat("\u20ac", length))
}

// fillers returns words that take up length characters of a list or vector in both
// forms, each with the blank behind it.
func (d desk) fillers(length int) []api.Word {
	d.t.Helper()
	var l []api.Word
	for length > api.MaxName {
		// What is left must be a symbol and a blank, at least.
		n := min(api.MaxName, length-3)
		l = append(l, d.filler(n))
		length -= n + 1
	}
	return append(l, d.filler(length-1))
}
