package forms

import (
	"slices"

	"copyist/api"
	"copyist/heap"
	"copyist/lists"
	"copyist/names"
)

// Kin returns the conditions as which the condition n may be handled.
func Kin(h *heap.Heap, t *names.Table, n int) []int {
	switch {
	case !valid(h, t):
		return nil
	case !fixed(n):
		return listedKin(h, t, n)
	case n == api.SymError || n == api.SymQuit:
		return []int{n}
	case n == api.SymOverflow:
		return []int{n, api.SymArith, api.SymError}
	case n == api.SymTextReadOnly:
		return []int{n, api.SymBufferReadOnly, api.SymError}
	}
	return []int{n, api.SymError}
}

// fixed reports whether n is one of the conditions with fixed numbers.
func fixed(n int) bool { return n >= api.SymError && n <= api.SymCyclicFunction }

// listedKin returns the symbols that the property error-conditions of symbol n lists.
func listedKin(h *heap.Heap, t *names.Table, n int) []int {
	l, _ := lists.Slice(h, property(t, n, "error-conditions"))
	var kin []int
	for _, x := range l {
		if x.Kind == api.KindSym {
			kin = append(kin, x.N)
		}
	}
	return kin
}

// property returns the value of a property of symbol n, or nil if it has none.
func property(t *names.Table, n int, name string) api.Word {
	key, known := t.Find(name)
	if w, ok := t.Prop(n, key); known && ok {
		return w
	}
	return symbol(api.SymNil)
}

// Matches reports whether a handler handles a condition.
func Matches(h *heap.Heap, t *names.Table, cond, handler api.Word) bool {
	if handler == symbol(api.SymT) {
		return true
	}
	if cond.Kind != api.KindSym {
		return false
	}
	handled := map[int]bool{}
	for _, x := range handlers(h, handler) {
		if x.Kind == api.KindSym && x.N != api.SymNil && x.N != api.SymT {
			handled[x.N] = true
		}
	}
	return slices.ContainsFunc(Kin(h, t, cond.N), func(n int) bool { return handled[n] })
}

// handlers returns what a handler consists of: itself if it is a symbol, else the
// elements of the list that it is.
func handlers(h *heap.Heap, handler api.Word) []api.Word {
	if handler.Kind == api.KindSym {
		return []api.Word{handler}
	}
	l, _ := lists.Slice(h, handler)
	return l
}

// Signal returns a signal of the condition n with data.
func Signal(h *heap.Heap, n int, data ...api.Word) (api.Signal, api.Errno) {
	l, err := lists.Make(h, data)
	if err == api.ErrLong {
		// Even the greatest heap has no room for so many data.
		err = api.ErrFull
	}
	if err != api.OK {
		return api.Signal{}, err
	}
	return api.Signal{Cond: symbol(n), Data: l}, api.OK
}
