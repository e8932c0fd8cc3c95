package names

import (
	"cmp"
	"slices"

	"copyist/api"
)

// cell is what can be set for a symbol.
type cell struct {
	function    api.Word
	hasFunction bool
	// props is in ascending order of the keys.
	props []api.Prop
}

// place returns the index of the property with that key, or where it would be
// inserted, and whether there is one.
func (c *cell) place(key int) (int, bool) {
	return slices.BinarySearchFunc(c.props, key, func(p api.Prop, key int) int {
		return cmp.Compare(p.Name, key)
	})
}

// put makes w the value of the property with that key.
func (c *cell) put(key int, w api.Word) {
	i, ok := c.place(key)
	if ok {
		c.props[i].Value = w
		return
	}
	c.props = slices.Insert(c.props, i, api.Prop{Name: key, Value: w})
}

// Func returns the function of symbol n and whether it has one.
func (t *Table) Func(n int) (api.Word, bool) {
	s := t.symbol(n)
	if s == nil {
		return api.Word{}, false
	}
	return s.function, s.hasFunction
}

// SetFunc makes w the function of symbol n.
func (t *Table) SetFunc(n int, w api.Word) api.Errno { return t.define(n, w, true) }

// ClearFunc takes the function of symbol n away.
func (t *Table) ClearFunc(n int) api.Errno { return t.define(n, api.Word{}, false) }

// define sets the function of symbol n, and whether it has one.
func (t *Table) define(n int, w api.Word, has bool) api.Errno {
	if !t.valid() {
		return api.ErrNil
	}
	s := t.symbol(n)
	if s == nil {
		return api.ErrUnknown
	}
	if n == api.SymNil || n == api.SymT {
		return api.ErrConst
	}
	s.function, s.hasFunction = w, has
	return api.OK
}

// Prop returns the value of a property of symbol n and whether it has it.
func (t *Table) Prop(n, key int) (api.Word, bool) {
	s := t.symbol(n)
	if s == nil {
		return api.Word{}, false
	}
	i, ok := s.place(key)
	if !ok {
		return api.Word{}, false
	}
	return s.props[i].Value, true
}

// SetProp makes w the value of a property of symbol n.
func (t *Table) SetProp(n, key int, w api.Word) api.Errno {
	if !t.valid() {
		return api.ErrNil
	}
	s := t.symbol(n)
	if s == nil || t.symbol(key) == nil {
		return api.ErrUnknown
	}
	s.put(key, w)
	return api.OK
}

// Props returns all properties of symbol n in ascending order of their keys.
func (t *Table) Props(n int) []api.Prop {
	s := t.symbol(n)
	if s == nil {
		return nil
	}
	return slices.Clone(s.props)
}
