package heap

import (
	"slices"

	"copyist/api"
	"copyist/runes"
)

// Cons creates a cons of a and d.
func (h *Heap) Cons(a, d api.Word) (api.Word, api.Errno) {
	if !h.valid() {
		return api.Word{}, api.ErrNil
	}
	return h.add(&cons{a, d})
}

// get returns the object that w refers to, which must be a T.
func get[T object](h *Heap, w api.Word) (T, api.Errno) {
	var none T
	if !h.valid() {
		return none, api.ErrNil
	}
	if o, ok := h.find(w).(T); ok {
		return o, api.OK
	}
	return none, api.ErrType
}

// isNil reports whether w is the Lisp's nil, which is a symbol and no object.
func isNil(w api.Word) bool { return w == api.Word{Kind: api.KindSym, N: api.SymNil} }

// Car returns the car of a cons, or nil for nil.
func (h *Heap) Car(w api.Word) (api.Word, api.Errno) {
	if h.valid() && isNil(w) {
		return w, api.OK
	}
	c, err := get[*cons](h, w)
	if err != api.OK {
		return api.Word{}, err
	}
	return c.car, api.OK
}

// Cdr returns the cdr of a cons, or nil for nil.
func (h *Heap) Cdr(w api.Word) (api.Word, api.Errno) {
	if h.valid() && isNil(w) {
		return w, api.OK
	}
	c, err := get[*cons](h, w)
	if err != api.OK {
		return api.Word{}, err
	}
	return c.cdr, api.OK
}

// SetCar makes x the car of a cons.
func (h *Heap) SetCar(w, x api.Word) api.Errno {
	c, err := get[*cons](h, w)
	if err != api.OK {
		return err
	}
	c.car = x
	return api.OK
}

// SetCdr makes x the cdr of a cons.
func (h *Heap) SetCdr(w, x api.Word) api.Errno {
	c, err := get[*cons](h, w)
	if err != api.OK {
		return err
	}
	c.cdr = x
	return api.OK
}

// Text creates a string.
func (h *Heap) Text(s string) (api.Word, api.Errno) {
	if !h.valid() {
		return api.Word{}, api.ErrNil
	}
	if !runes.Valid(s) {
		return api.Word{}, api.ErrForm
	}
	length := runes.Len(s)
	if length > api.MaxChars {
		return api.Word{}, api.ErrLong
	}
	return h.add(&text{s, length})
}

// TextOf returns the characters of a string.
func (h *Heap) TextOf(w api.Word) (string, api.Errno) {
	t, err := get[*text](h, w)
	if err != api.OK {
		return "", err
	}
	return t.chars, api.OK
}

// Vec creates a vector of the elements l.
func (h *Heap) Vec(l []api.Word) (api.Word, api.Errno) {
	if !h.valid() {
		return api.Word{}, api.ErrNil
	}
	if len(l) > api.MaxChars {
		return api.Word{}, api.ErrLong
	}
	return h.add(&vector{slices.Clone(l)})
}

// element returns where the vector that w refers to keeps its element i.
func (h *Heap) element(w api.Word, i int) (*api.Word, api.Errno) {
	v, err := get[*vector](h, w)
	if err != api.OK {
		return nil, err
	}
	if i < 0 || i >= len(v.elements) {
		return nil, api.ErrRange
	}
	return &v.elements[i], api.OK
}

// VecOf returns the elements of a vector.
func (h *Heap) VecOf(w api.Word) ([]api.Word, api.Errno) {
	v, err := get[*vector](h, w)
	if err != api.OK {
		return nil, err
	}
	return slices.Clone(v.elements), api.OK
}

// At returns the element of a vector at index i.
func (h *Heap) At(w api.Word, i int) (api.Word, api.Errno) {
	e, err := h.element(w, i)
	if err != api.OK {
		return api.Word{}, err
	}
	return *e, api.OK
}

// SetAt replaces the element of a vector at index i by x.
func (h *Heap) SetAt(w api.Word, i int, x api.Word) api.Errno {
	e, err := h.element(w, i)
	if err != api.OK {
		return err
	}
	*e = x
	return api.OK
}

// Code creates code. It does not check what the code says.
func (h *Heap) Code(c api.Code) (api.Word, api.Errno) {
	if !h.valid() {
		return api.Word{}, api.ErrNil
	}
	if len(c.Bytes) > api.MaxChars || len(c.Consts) > api.MaxChars {
		return api.Word{}, api.ErrLong
	}
	return h.add(&code{clone(c)})
}

// CodeOf returns what the code that w refers to consists of.
func (h *Heap) CodeOf(w api.Word) (api.Code, api.Errno) {
	c, err := get[*code](h, w)
	if err != api.OK {
		return api.Code{}, err
	}
	return clone(c.content), api.OK
}
