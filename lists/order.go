package lists

import (
	"cmp"
	"slices"
	"strings"

	"copyist/api"
	"copyist/heap"
)

// Less reports whether a is before b: both must be integers, or both strings.
func Less(h *heap.Heap, a, b api.Word) (less bool, err api.Errno) {
	defer func() { err, _ = recover().(api.Errno) }()
	s := open(h)
	s.ordered(a, b)
	return s.compare(a, b) < 0, api.OK
}

// Sorted creates a list of the elements of w in ascending order.
func Sorted(h *heap.Heap, w api.Word) (sorted api.Word, err api.Errno) {
	defer func() { err, _ = recover().(api.Errno) }()
	s := open(h)
	l := s.elements(w)
	s.ordered(l...)
	slices.SortStableFunc(l, s.compare)
	return s.list(l, null()), api.OK
}

// ordered panics unless all words of l are integers or all are strings.
func (s store) ordered(l ...api.Word) {
	for _, w := range l {
		if w.Kind != api.KindInt && w.Kind != api.KindText || w.Kind != l[0].Kind || !s.Live(w) {
			panic(api.ErrType)
		}
	}
}

// compare returns the order of two integers or two strings. The order of the
// characters of strings is that of their bytes.
func (s store) compare(a, b api.Word) int {
	if a.Kind == api.KindInt {
		return cmp.Compare(a.N, b.N)
	}
	return strings.Compare(s.text(a), s.text(b))
}
