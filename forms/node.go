package forms

import (
	"copyist/api"
	"copyist/heap"
)

// maxWords is how many words a backquoted word has at most.
const maxWords = 10000

// node is a word with its parts. They are recorded before any object is created: a word
// that is not live then may become the word of a new object.
type node struct {
	word api.Word
	// parts are the car and the cdr of a live cons, or the elements of a live vector.
	parts []*node
	// varies is the greatest level at which the word is not constant, 0 if it is
	// constant at every level. At all levels below it is not constant either.
	varies int
}

// newNode returns the node of a word with its parts.
func newNode(w api.Word, parts []*node) *node {
	n := &node{word: w, parts: parts}
	switch s, x := n.prefix(); s {
	case api.SymBack:
		n.varies = max(0, x.varies-1)
	case api.SymComma, api.SymSplice:
		n.varies = x.varies + 1
	default:
		for _, p := range parts {
			n.varies = max(n.varies, p.varies)
		}
	}
	return n
}

// isCons reports whether the word of n was a live cons.
func (n *node) isCons() bool { return n.word.Kind == api.KindCons && len(n.parts) > 0 }

// prefix returns the symbol of a backquote, a comma or ,@ and the word that it stands
// before, or SymNil if n is no such list.
func (n *node) prefix() (int, *node) {
	if !n.isCons() || n.parts[0].word.Kind != api.KindSym {
		return api.SymNil, nil
	}
	switch s, l := n.parts[0].word.N, n.parts[1]; s {
	case api.SymBack, api.SymComma, api.SymSplice:
		if l.isCons() && l.parts[1].word == symbol(api.SymNil) {
			return s, l.parts[0]
		}
	}
	return api.SymNil, nil
}

// recorder records the nodes of a word. It signals an error by a panic with an
// api.Errno.
type recorder struct {
	heap *heap.Heap
	// words is the number of words that were reached, deepest the greatest number of
	// cars and elements that one of them is nested in.
	words, deepest int
}

// record returns the node of a backquoted word.
func record(h *heap.Heap, w api.Word) *node {
	r := &recorder{heap: h}
	r.count(1)
	n := r.node(w, 0)
	if r.deepest > api.MaxNest {
		panic(api.ErrDepth)
	}
	return n
}

// count counts words that were reached.
func (r *recorder) count(n int) {
	r.words += n
	if r.words > maxWords {
		panic(api.ErrLong)
	}
}

// node records a word that is nested in depth cars and elements. The parts of a word are
// counted before any of them is looked at, which limits how much is done for circles.
func (r *recorder) node(w api.Word, depth int) *node {
	r.deepest = max(r.deepest, depth)
	var parts []*node
	switch w.Kind {
	case api.KindCons:
		a, err := r.heap.Car(w)
		if err != api.OK {
			break
		}
		d, _ := r.heap.Cdr(w)
		r.count(2)
		parts = []*node{r.node(a, depth+1), r.node(d, depth)}
	case api.KindVec:
		l, _ := r.heap.VecOf(w)
		r.count(len(l))
		for _, x := range l {
			parts = append(parts, r.node(x, depth+1))
		}
	}
	return newNode(w, parts)
}
