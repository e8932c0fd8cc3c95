package lists

import (
	"copyist/api"
	"copyist/heap"
)

// Get returns the value of a key in a property list, and whether it has one. It finds
// nothing on an invalid heap, since no cons is live there.
func Get(h *heap.Heap, plist, key api.Word) (api.Word, bool) {
	s := store{h}
	found := false
	for i, c := range s.chain(plist) {
		if i == api.MaxChars {
			break
		}
		if found {
			return s.car(c), true
		}
		found = i%2 == 0 && s.car(c) == key
	}
	return api.Word{}, false
}

// Put creates a property list in which a key has a value.
func Put(h *heap.Heap, plist, key, value api.Word) (w api.Word, err api.Errno) {
	defer func() { err, _ = recover().(api.Errno) }()
	s := open(h)
	l := s.elements(plist)
	for i := 0; i+1 < len(l); i += 2 {
		if l[i] == key {
			l[i+1] = value
			return s.list(l, null()), api.OK
		}
	}
	return s.list(append(l, key, value), null()), api.OK
}
