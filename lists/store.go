package lists

import (
	"iter"
	"slices"

	"copyist/api"
	"copyist/heap"
)

// store is a heap with operations on lists. Except for the method chain, these need a
// valid heap, and signal an error by a panic with an api.Errno.
type store struct{ *heap.Heap }

// open returns the store of a valid heap.
func open(h *heap.Heap) store {
	// A valid heap has a limit.
	if h.Limit() == 0 {
		panic(api.ErrNil)
	}
	return store{h}
}

// null returns the Lisp's nil.
func null() api.Word { return api.Word{Kind: api.KindSym, N: api.SymNil} }

// isCons reports whether w is a live cons.
func (s store) isCons(w api.Word) bool { return w.Kind == api.KindCons && s.Live(w) }

// car returns the car of a cons, or nil for nil.
func (s store) car(w api.Word) api.Word { return checked(s.Car(w)) }

// cdr returns the cdr of a cons, or nil for nil.
func (s store) cdr(w api.Word) api.Word { return checked(s.Cdr(w)) }

// checked returns w unless there was an error.
func checked(w api.Word, err api.Errno) api.Word {
	if err != api.OK {
		panic(err)
	}
	return w
}

// chain yields w and its cdrs, with their numbers, as long as they are live conses:
// without an end, if they are circular.
func (s store) chain(w api.Word) iter.Seq2[int, api.Word] {
	return func(yield func(int, api.Word) bool) {
		c := w
		for i := 0; s.isCons(c) && yield(i, c); i++ {
			c = s.cdr(c)
		}
	}
}

// conses yields the conses of a list with their cars. It panics where the list turns
// out not to be proper.
func (s store) conses(w api.Word) iter.Seq2[api.Word, api.Word] {
	return func(yield func(api.Word, api.Word) bool) {
		end := w
		for i, c := range s.chain(w) {
			if i == api.MaxChars {
				panic(api.ErrLoop)
			}
			if !yield(c, s.car(c)) {
				return
			}
			end = s.cdr(c)
		}
		if end != null() {
			panic(api.ErrType)
		}
	}
}

// elements returns the elements of a list.
func (s store) elements(w api.Word) []api.Word {
	var l []api.Word
	for _, x := range s.conses(w) {
		l = append(l, x)
	}
	return l
}

// tail returns w after its cdr was taken n times.
func (s store) tail(w api.Word, n int) api.Word {
	if n < 0 || n > api.MaxChars {
		panic(api.ErrRange)
	}
	for range n {
		w = s.cdr(w)
	}
	return w
}

// list creates a list of the words of l that ends with end.
func (s store) list(l []api.Word, end api.Word) api.Word {
	if len(l) > s.Limit()-s.Many() {
		panic(api.ErrFull)
	}
	for _, x := range slices.Backward(l) {
		end = checked(s.Cons(x, end))
	}
	return end
}
