package heap

import (
	"slices"

	"copyist/api"
)

// object is a *cons, a *text, a *vector or a *code.
type object interface {
	// size is what the object takes of MaxStore.
	size() int
}

type cons struct{ car, cdr api.Word }

// text keeps the number of its characters, which would take a pass over the string.
type text struct {
	chars  string
	length int
}

type vector struct{ elements []api.Word }

type code struct{ content api.Code }

func (c *cons) size() int   { return 0 }
func (t *text) size() int   { return t.length }
func (v *vector) size() int { return len(v.elements) }
func (c *code) size() int   { return len(c.content.Bytes) + len(c.content.Consts) }

// kind returns the kind of the words that refer to o, or -1, the kind of no word,
// if there is no object.
func kind(o object) int {
	switch o.(type) {
	case *cons:
		return api.KindCons
	case *text:
		return api.KindText
	case *vector:
		return api.KindVec
	case *code:
		return api.KindCode
	}
	return -1
}

// contained calls visit with each word that o contains.
func contained(o object, visit func(api.Word)) {
	switch x := o.(type) {
	case *cons:
		visit(x.car)
		visit(x.cdr)
	case *vector:
		each(x.elements, visit)
	case *code:
		each(x.content.Consts, visit)
	}
}

// each calls visit with each of the words.
func each(words []api.Word, visit func(api.Word)) {
	for _, w := range words {
		visit(w)
	}
}

// duplicate returns an object with the same content, or nil if there is none.
func duplicate(o object) object {
	switch x := o.(type) {
	case *cons:
		return &cons{x.car, x.cdr}
	case *text:
		return &text{x.chars, x.length}
	case *vector:
		return &vector{slices.Clone(x.elements)}
	case *code:
		return &code{clone(x.content)}
	}
	return nil
}

// clone returns c with slices of its own.
func clone(c api.Code) api.Code {
	c.Bytes, c.Consts = slices.Clone(c.Bytes), slices.Clone(c.Consts)
	return c
}
