package forms

import (
	"slices"

	"copyist/api"
	"copyist/heap"
	"copyist/lists"
	"copyist/names"
)

// Backquote returns the form of a backquoted word.
func Backquote(h *heap.Heap, t *names.Table, w api.Word) (form api.Word, err api.Errno) {
	defer func() { err, _ = recover().(api.Errno) }()
	if !valid(h, t) {
		panic(api.ErrNil)
	}
	return translator{h, t}.form(record(h, w), 1), api.OK
}

// translator creates forms. It signals an error by a panic with an api.Errno.
type translator struct {
	heap  *heap.Heap
	table *names.Table
}

// form returns the form of a word at a level.
func (c translator) form(n *node, level int) api.Word {
	s, x := n.prefix()
	switch {
	case level > n.varies:
		return c.constant(n.word)
	case n.word.Kind == api.KindVec:
		return c.vector(n, level)
	case s == api.SymComma && level == 1:
		return x.word
	case s == api.SymSplice && level == 1:
		panic(api.ErrForm)
	case s == api.SymBack:
		level++
	case s != api.SymNil:
		level--
	}
	return c.cons(n.parts[0], n.parts[1], level)
}

// constant returns the form of a constant word.
func (c translator) constant(w api.Word) api.Word {
	switch w.Kind {
	case api.KindCons, api.KindVec:
		return c.quoted(w)
	case api.KindSym:
		if w.N != api.SymNil && w.N != api.SymT {
			return c.quoted(w)
		}
	}
	return w
}

// cons returns the form of a cons of a and d, which are at a level.
func (c translator) cons(a, d *node, level int) api.Word {
	if s, x := a.prefix(); s == api.SymSplice && level == 1 {
		rest := c.form(d, level)
		return c.list(c.interned("append"), x.word, rest)
	}
	first, rest := c.form(a, level), c.form(d, level)
	return c.list(c.interned("cons"), first, rest)
}

// vector returns the form of a vector that is not constant.
func (c translator) vector(n *node, level int) api.Word {
	f := c.form(c.listed(n.parts), level)
	apply, vector := c.interned("apply"), c.interned("vector")
	return c.list(apply, c.quoted(vector), f)
}

// listed returns the node of a new list of words.
func (c translator) listed(l []*node) *node {
	var words, conses []api.Word
	for _, x := range l {
		words = append(words, x.word)
	}
	w := c.list(words...)
	for range l {
		conses = append(conses, w)
		w, _ = c.heap.Cdr(w)
	}
	n := newNode(w, nil)
	for i, cons := range slices.Backward(conses) {
		n = newNode(cons, []*node{l[i], n})
	}
	return n
}

// quoted returns a form whose value is w.
func (c translator) quoted(w api.Word) api.Word { return c.list(symbol(api.SymQuote), w) }

// interned returns the symbol with a name.
func (c translator) interned(name string) api.Word {
	n, err := c.table.Intern(name)
	if err != api.OK {
		panic(err)
	}
	return symbol(n)
}

// list creates a list.
func (c translator) list(l ...api.Word) api.Word {
	w, err := lists.Make(c.heap, l)
	if err != api.OK {
		panic(err)
	}
	return w
}
