package vars

import (
	"slices"

	"copyist/api"
)

// binding is a binding that can be undone.
type binding struct {
	// recorded is what the cell contained before.
	recorded cell
	// restore stores a content in the cell if v still has it. It is given v because
	// a copy has the same bindings, but of its own cells.
	restore func(v *Vars, content cell)
}

// Bind stores w in the cell of variable n until the binding is undone.
func (v *Vars) Bind(n int, w api.Word) api.Errno {
	if err := v.checkChange(n); err != api.OK {
		return err
	}
	if len(v.bindings) >= api.MaxBinds {
		return api.ErrDepth
	}
	k := v.home(n)
	restore := func(v *Vars, content cell) {
		if k == 0 || v.IsLocal(n, k) {
			v.store(n, k, content)
		}
	}
	v.bindings = append(v.bindings, binding{v.content(n, k), restore})
	v.store(n, k, cell{w, true})
	return api.OK
}

// Unbind undoes all bindings but the first depth ones.
func (v *Vars) Unbind(depth int) api.Errno {
	if !v.valid() {
		return api.ErrNil
	}
	if depth < 0 || depth > len(v.bindings) {
		return api.ErrRange
	}
	for _, b := range slices.Backward(v.bindings[depth:]) {
		b.restore(v, b.recorded)
	}
	v.bindings = slices.Delete(v.bindings, depth, len(v.bindings))
	return api.OK
}

// Depth returns the number of bindings.
func (v *Vars) Depth() int {
	if !v.valid() {
		return 0
	}
	return len(v.bindings)
}
