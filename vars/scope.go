package vars

import (
	"maps"
	"slices"

	"copyist/api"
)

// isScope reports whether k is the number of a scope.
func isScope(k int) bool { return k >= 1 && k <= api.MaxScopes }

// Scope returns the current scope, 0 if there is none.
func (v *Vars) Scope() int {
	if !v.valid() {
		return 0
	}
	return v.scope
}

// SetScope makes scope k current, or none if k is 0.
func (v *Vars) SetScope(k int) api.Errno {
	switch {
	case !v.valid():
		return api.ErrNil
	case k != 0 && !isScope(k):
		return api.ErrRange
	}
	v.scope = k
	return api.OK
}

// MakeLocal makes variable n local in the current scope, if it is not yet, with the
// content of its default cell.
func (v *Vars) MakeLocal(n int) api.Errno {
	if err := v.checkChange(n); err != api.OK {
		return err
	}
	if v.scope == 0 {
		return api.ErrState
	}
	if !v.IsLocal(n, v.scope) {
		v.store(n, v.scope, v.content(n, 0))
	}
	return api.OK
}

// KillLocal makes variable n local in the current scope no more.
func (v *Vars) KillLocal(n int) api.Errno {
	if err := v.check(n); err != api.OK {
		return err
	}
	if v.scope == 0 {
		return api.ErrState
	}
	m := v.cells[v.scope]
	delete(m, n)
	if len(m) == 0 {
		delete(v.cells, v.scope)
	}
	return api.OK
}

// IsLocal reports whether variable n is local in scope k.
func (v *Vars) IsLocal(n, k int) bool {
	return v.valid() && isScope(k) && v.cells[k][n] != nil
}

// Local returns the value of variable n in scope k and whether it is local there and
// has one.
func (v *Vars) Local(n, k int) (api.Word, bool) {
	if !v.IsLocal(n, k) {
		return api.Word{}, false
	}
	c := v.content(n, k)
	return c.value, c.full
}

// SetLocal makes variable n local in scope k with the value w.
func (v *Vars) SetLocal(n, k int, w api.Word) api.Errno {
	if err := v.check(n); err != api.OK {
		return err
	}
	switch {
	case !isScope(k):
		return api.ErrRange
	case v.Const(n):
		return api.ErrConst
	}
	v.store(n, k, cell{w, true})
	return api.OK
}

// Locals returns the variables that are local in scope k, in ascending order.
func (v *Vars) Locals(k int) []int {
	if !v.valid() || !isScope(k) {
		return nil
	}
	return slices.Sorted(maps.Keys(v.cells[k]))
}

// Drop makes all variables local in scope k no more, and k not current.
func (v *Vars) Drop(k int) api.Errno {
	switch {
	case !v.valid():
		return api.ErrNil
	case !isScope(k):
		return api.ErrRange
	}
	delete(v.cells, k)
	if v.scope == k {
		v.scope = 0
	}
	return api.OK
}
