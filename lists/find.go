package lists

import (
	"slices"

	"copyist/api"
	"copyist/heap"
)

// Memq returns the first cons of a list whose car is x, or nil.
func Memq(h *heap.Heap, x, w api.Word) (c api.Word, err api.Errno) {
	defer func() { err, _ = recover().(api.Errno) }()
	return open(h).member(w, same(x)), api.OK
}

// Member returns the first cons of a list whose car is equal to x, or nil.
func Member(h *heap.Heap, x, w api.Word) (c api.Word, err api.Errno) {
	defer func() { err, _ = recover().(api.Errno) }()
	s := open(h)
	return s.member(w, s.equals(x)), api.OK
}

// Assq returns the first element of a list that is a cons whose car is x, or nil.
func Assq(h *heap.Heap, x, w api.Word) (e api.Word, err api.Errno) {
	defer func() { err, _ = recover().(api.Errno) }()
	return open(h).entry(w, same(x)), api.OK
}

// Assoc returns the first element of a list that is a cons whose car is equal to x, or
// nil.
func Assoc(h *heap.Heap, x, w api.Word) (e api.Word, err api.Errno) {
	defer func() { err, _ = recover().(api.Errno) }()
	s := open(h)
	return s.entry(w, s.equals(x)), api.OK
}

// Delq removes the elements that are x from a list, whose conses it changes.
func Delq(h *heap.Heap, x, w api.Word) (rest api.Word, err api.Errno) {
	defer func() { err, _ = recover().(api.Errno) }()
	s := open(h)
	return s.link(s.others(w, same(x))), api.OK
}

// Delete removes the elements that are equal to x from a list, whose conses it changes.
func Delete(h *heap.Heap, x, w api.Word) (rest api.Word, err api.Errno) {
	defer func() { err, _ = recover().(api.Errno) }()
	s := open(h)
	return s.link(s.others(w, s.equals(x))), api.OK
}

// Remove creates a list of the elements of w that are not equal to x.
func Remove(h *heap.Heap, x, w api.Word) (rest api.Word, err api.Errno) {
	defer func() { err, _ = recover().(api.Errno) }()
	s := open(h)
	l := s.others(w, s.equals(x))
	for i, c := range l {
		l[i] = s.car(c)
	}
	return s.list(l, null()), api.OK
}

// same returns a function that reports whether a word is x.
func same(x api.Word) func(api.Word) bool {
	return func(w api.Word) bool { return Eql(w, x) }
}

// equals returns a function that reports whether a word is equal to x. The comparisons
// of all its calls are counted together.
func (s store) equals(x api.Word) func(api.Word) bool {
	made := 0
	return func(w api.Word) bool { return s.equal(x, w, 0, &made) }
}

// member returns the first cons of a list whose car matches, or nil.
func (s store) member(w api.Word, matches func(api.Word) bool) api.Word {
	for c, x := range s.conses(w) {
		if matches(x) {
			return c
		}
	}
	return null()
}

// entry returns the first element of a list that is a cons whose car matches, or nil.
func (s store) entry(w api.Word, matches func(api.Word) bool) api.Word {
	for _, x := range s.conses(w) {
		if s.isCons(x) && matches(s.car(x)) {
			return x
		}
	}
	return null()
}

// others returns the conses of a list whose cars do not match. The list must be known
// to be proper before any of its elements is compared.
func (s store) others(w api.Word, matches func(api.Word) bool) []api.Word {
	var l []api.Word
	for c := range s.conses(w) {
		l = append(l, c)
	}
	return slices.DeleteFunc(l, func(c api.Word) bool { return matches(s.car(c)) })
}

// link makes the conses of l a list.
func (s store) link(l []api.Word) api.Word {
	rest := null()
	for _, c := range slices.Backward(l) {
		if err := s.SetCdr(c, rest); err != api.OK {
			panic(err)
		}
		rest = c
	}
	return rest
}
