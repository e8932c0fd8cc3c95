package forms

import (
	"copyist/api"
	"copyist/heap"
	"copyist/lists"
)

// The stages of a parameter list, in the order in which they follow each other: what the
// next symbol is, or that there must not be one.
const (
	needed = iota
	optional
	rest
	complete
)

// collector collects parameters from the symbols of a parameter list.
type collector struct {
	api.Params
	stage int
	// taken contains the symbols that were collected.
	taken map[int]bool
}

// Params returns the parameters that a list describes.
func Params(h *heap.Heap, w api.Word) (api.Params, api.Errno) {
	l, err := lists.Slice(h, w)
	switch {
	case err == api.ErrNil:
		return api.Params{}, api.ErrNil
	case err != api.OK:
		return api.Params{}, api.ErrType
	case len(l) > api.MaxArgs:
		return api.Params{}, api.ErrLong
	}
	c := collector{Params: api.Params{Rest: -1}, taken: map[int]bool{}}
	for _, x := range l {
		if err := c.add(x); err != api.OK {
			return api.Params{}, err
		}
	}
	if c.stage == rest {
		return api.Params{}, api.ErrForm
	}
	return c.Params, api.OK
}

// add takes the next element of the list.
func (c *collector) add(w api.Word) api.Errno {
	switch {
	case w.Kind != api.KindSym:
		return api.ErrType
	case w.N == api.SymNil || w.N == api.SymT:
		return api.ErrConst
	case w.N == api.SymOptional:
		return c.enter(optional)
	case w.N == api.SymRest:
		return c.enter(rest)
	case c.stage == complete:
		return api.ErrForm
	case c.taken[w.N]:
		return api.ErrDouble
	}
	c.taken[w.N] = true
	c.take(w.N)
	return api.OK
}

// enter begins a stage, which must be a later one.
func (c *collector) enter(stage int) api.Errno {
	if c.stage >= stage {
		return api.ErrForm
	}
	c.stage = stage
	return api.OK
}

// take makes symbol n a parameter.
func (c *collector) take(n int) {
	switch c.stage {
	case needed:
		c.Need = append(c.Need, n)
	case optional:
		c.May = append(c.May, n)
	case rest:
		c.Rest = n
		c.stage = complete
	}
}

// Fits reports whether n arguments fit the parameters p.
func Fits(p api.Params, n int) bool {
	return n >= len(p.Need) && (p.Rest != -1 || n <= len(p.Need)+len(p.May))
}
