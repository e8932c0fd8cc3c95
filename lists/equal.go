package lists

import (
	"sort"

	"copyist/api"
	"copyist/heap"
)

// Eql reports whether a and b are the same word.
func Eql(a, b api.Word) bool { return a == b }

// Equal reports whether a and b are the same word or have equal contents.
func Equal(h *heap.Heap, a, b api.Word) (equal bool, err api.Errno) {
	defer func() { err, _ = recover().(api.Errno) }()
	made := 0
	return open(h).equal(a, b, 0, &made), api.OK
}

// equal compares a and b, which are nested depth levels deep. The comparisons that were
// made are counted in made.
func (s store) equal(a, b api.Word, depth int, made *int) bool {
	for cdrs := 0; ; cdrs++ {
		count(depth, cdrs, made)
		switch {
		case a == b:
			return true
		case !s.isCons(a) || !s.isCons(b):
			return s.alike(a, b, depth, made)
		case !s.equal(s.car(a), s.car(b), depth+1, made):
			return false
		}
		a, b = s.cdr(a), s.cdr(b)
	}
}

// count counts a comparison, unless it exceeds a limit.
func count(depth, cdrs int, made *int) {
	switch {
	case depth > api.MaxNest:
		panic(api.ErrDepth)
	case *made == api.MaxPairs:
		panic(api.ErrFuel)
	case cdrs > api.MaxChars:
		panic(api.ErrLoop)
	}
	*made++
}

// alike reports whether a and b are strings or vectors with equal contents.
func (s store) alike(a, b api.Word, depth int, made *int) bool {
	if a.Kind != b.Kind || !s.Live(a) || !s.Live(b) {
		return false
	}
	switch a.Kind {
	case api.KindText:
		return s.text(a) == s.text(b)
	case api.KindVec:
		return s.vectors(a, b, depth, made)
	}
	return false
}

// text returns the characters of a string.
func (s store) text(w api.Word) string {
	t, err := s.TextOf(w)
	if err != api.OK {
		panic(err)
	}
	return t
}

// vectors reports whether vectors have equal contents.
func (s store) vectors(a, b api.Word, depth int, made *int) bool {
	n := s.length(a)
	if n != s.length(b) {
		return false
	}
	for i := range n {
		if !s.equal(checked(s.At(a, i)), checked(s.At(b, i)), depth+1, made) {
			return false
		}
	}
	return true
}

// length returns the number of elements of a vector. It asks for a few of them: all of
// them at once would be copied for each comparison.
func (s store) length(v api.Word) int {
	return sort.Search(api.MaxChars, func(i int) bool {
		_, err := s.At(v, i)
		return err != api.OK
	})
}
