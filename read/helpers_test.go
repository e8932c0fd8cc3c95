package read_test

import (
	"slices"
	"strconv"
	"strings"
	"testing"

	"copyist/api"
	"copyist/heap"
	"copyist/names"
	"copyist/read"
)

// The least and the greatest int.
const (
	least = -1 << 63
	most  = 1<<63 - 1
)

// null is the Lisp's nil.
var null = api.Word{Kind: api.KindSym, N: api.SymNil}

func number(n int) api.Word { return api.Word{Kind: api.KindInt, N: n} }

func fault(err api.Errno, at int) api.Fault { return api.Fault{Err: err, At: at} }

// length returns how many characters s has.
func length(s string) int { return len([]rune(s)) }

// desk is what a form is read into.
type desk struct {
	h *heap.Heap
	t *names.Table
}

// newDesk returns a desk with room for limit objects.
func newDesk(t *testing.T, limit int) desk {
	t.Helper()
	h, err := heap.New(limit)
	if err != api.OK {
		t.Fatalf("New(%d): %v", limit, err)
	}
	return desk{h, names.New()}
}

// spell writes w: an int in decimal, a symbol as <NAME>, a string as a literal of Go,
// lists and vectors with their brackets and without prefixes.
func (d desk) spell(w api.Word) string {
	switch w.Kind {
	case api.KindInt:
		return strconv.Itoa(w.N)
	case api.KindSym:
		s, ok := d.t.Name(w.N)
		if !ok || !d.t.Interned(w.N) {
			return "no symbol"
		}
		return "<" + s + ">"
	case api.KindText:
		s, err := d.h.TextOf(w)
		if err != api.OK {
			return "no string"
		}
		return strconv.Quote(s)
	case api.KindVec:
		l, err := d.h.VecOf(w)
		if err != api.OK {
			return "no vector"
		}
		return "[" + d.spellAll(l) + "]"
	case api.KindCons:
		return d.spellList(w)
	}
	return "no form"
}

// spellAll writes words with blanks between them.
func (d desk) spellAll(l []api.Word) string {
	var parts []string
	for _, w := range l {
		parts = append(parts, d.spell(w))
	}
	return strings.Join(parts, " ")
}

// spellList writes a list.
func (d desk) spellList(w api.Word) string {
	var parts []string
	for w.Kind == api.KindCons {
		a, err := d.h.Car(w)
		if err != api.OK {
			return "no cons"
		}
		parts = append(parts, d.spell(a))
		w, _ = d.h.Cdr(w)
	}
	if w != null {
		parts = append(parts, ".", d.spell(w))
	}
	return "(" + strings.Join(parts, " ") + ")"
}

// contents describes all objects by their numbers, one level deep, and all symbols
// behind the fixed ones.
func (d desk) contents() string {
	var b strings.Builder
	for n := range d.h.Limit() {
		for _, kind := range []int{api.KindCons, api.KindText, api.KindVec, api.KindCode} {
			if w := (api.Word{Kind: kind, N: n}); d.h.Live(w) {
				b.WriteString(strconv.Itoa(n) + ": " + d.content(w) + "\n")
			}
		}
	}
	for n := api.FixedSyms; n < d.t.Many(); n++ {
		s, _ := d.t.Name(n)
		b.WriteString(strconv.Itoa(n) + ": <" + s + ">\n")
	}
	return b.String()
}

// content describes an object; the objects in it are given by their kinds and
// numbers.
func (d desk) content(w api.Word) string {
	pair := func(w api.Word) string { return strconv.Itoa(w.Kind) + "/" + strconv.Itoa(w.N) }
	switch w.Kind {
	case api.KindCons:
		a, _ := d.h.Car(w)
		b, _ := d.h.Cdr(w)
		return "cons " + pair(a) + " " + pair(b)
	case api.KindVec:
		l, _ := d.h.VecOf(w)
		s := "vector"
		for _, x := range l {
			s += " " + pair(x)
		}
		return s
	}
	return d.spell(w)
}

// reads checks that the first form of s is the one spelled want, and ends at end.
func reads(t *testing.T, s, want string, end int) {
	t.Helper()
	d := newDesk(t, 1000)
	w, n, f := read.Read(d.h, d.t, s, 0)
	if f != (api.Fault{}) {
		t.Errorf("%q: %v, not %s", s, f, want)
	} else if got := d.spell(w); got != want || n != end {
		t.Errorf("%q: %s, end %d, not %s, %d", s, got, n, want, end)
	}
}

// fails checks that Read and All return the fault want for s.
func fails(t *testing.T, s string, want api.Fault) {
	t.Helper()
	newDesk(t, 1000).fails(t, s, want)
}

// fails checks that Read and All return the fault want for s. Both create objects
// before it.
func (d desk) fails(t *testing.T, s string, want api.Fault) {
	t.Helper()
	short := s
	if len(s) > 50 {
		short = s[:50] + ".."
	}
	if w, end, f := read.Read(d.h, d.t, s, 0); f != want || w != (api.Word{}) || end != 0 {
		t.Errorf("Read(%q) = %v, %d, %v, not %v", short, w, end, f, want)
	}
	if l, f := read.All(d.h, d.t, s); f != want || len(l) != 0 {
		t.Errorf("All(%q) = %v, %v, not %v", short, l, f, want)
	}
}

// does fails the test if there is an error, and returns the word otherwise.
func does(t *testing.T) func(api.Word, api.Errno) api.Word {
	return func(w api.Word, err api.Errno) api.Word {
		t.Helper()
		if err != api.OK {
			t.Fatal("an object was not created:", err)
		}
		return w
	}
}

// list creates the conses of a list from the last to the first.
func (d desk) list(t *testing.T, l []api.Word, tail api.Word) api.Word {
	t.Helper()
	for _, x := range slices.Backward(l) {
		tail = does(t)(d.h.Cons(x, tail))
	}
	return tail
}
