package vars_test

import (
	"slices"
	"testing"

	"copyist/api"
	"copyist/vars"
)

// P4.2: the chapter's first example, and nested bindings.
func TestBind(t *testing.T) {
	v := vars.New()
	does(t, v.Set(70, number(1)), v.Bind(70, number(2)))
	has(t, v, 70, number(2))
	hasDefault(t, v, 70, number(2))
	does(t, v.Bind(70, number(3)), v.Bind(71, number(4)), v.Bind(70, number(5)))
	has(t, v, 70, number(5))
	has(t, v, 71, number(4))
	if v.Depth() != 4 {
		t.Error("Depth:", v.Depth())
	}
	does(t, v.Unbind(4))
	has(t, v, 70, number(5))
	does(t, v.Unbind(3))
	has(t, v, 70, number(3))
	has(t, v, 71, number(4))
	// The oldest of several bindings is undone last.
	does(t, v.Unbind(0))
	has(t, v, 70, number(1))
	lacks(t, v, 71)
	lacksDefault(t, v, 71)
	if v.Depth() != 0 {
		t.Error("Depth:", v.Depth())
	}
	does(t, v.Unbind(0))
	has(t, v, 70, number(1))
}

// P4.2: any word can be bound and recorded.
func TestBindWords(t *testing.T) {
	v := vars.New()
	for _, w := range anyWords() {
		does(t, v.Bind(70, w))
		has(t, v, 70, w)
	}
	for i, w := range slices.Backward(anyWords()) {
		has(t, v, 70, w)
		does(t, v.Unbind(i))
	}
	lacks(t, v, 70)
}

// P4.2: a binding that is undone is gone, and does not come back.
func TestUnbindOnce(t *testing.T) {
	v := vars.New()
	does(t, v.Bind(70, number(1)), v.Bind(70, number(2)), v.Bind(70, number(3)), v.Unbind(1))
	does(t, v.Set(70, number(4)), v.Bind(71, number(5)), v.Unbind(1))
	has(t, v, 70, number(4))
	does(t, v.Unbind(0))
	lacks(t, v, 70)
	lacks(t, v, 71)
}

// P4.2: errors of Bind and Unbind.
func TestBindErrors(t *testing.T) {
	v := vars.New()
	does(t, v.SetScope(3), v.SetLocal(71, 3, number(0)), v.MarkConst(75))
	for i := range api.MaxBinds {
		if v.Depth() != i {
			t.Fatalf("Depth = %d, not %d", v.Depth(), i)
		}
		does(t, v.Bind(70+i%2, number(i)))
	}
	before := watch(v)
	for _, n := range []int{70, 71, 72, 2} {
		if e := v.Bind(n, number(1)); e != api.ErrDepth {
			t.Errorf("Bind(%d): %v", n, e)
		}
	}
	for _, n := range []int{0, 1, 75} {
		if e := v.Bind(n, number(1)); e != api.ErrConst {
			t.Errorf("Bind(%d): %v", n, e)
		}
	}
	for _, depth := range []int{-1, least, api.MaxBinds + 1, most, 1 << 32} {
		if e := v.Unbind(depth); e != api.ErrRange {
			t.Errorf("Unbind(%d): %v", depth, e)
		}
	}
	stays(t, v, before)
	does(t, v.Unbind(api.MaxBinds))
	stays(t, v, before)
	does(t, v.Unbind(api.MaxBinds-1), v.Bind(72, number(1)), v.Unbind(1))
	has(t, v, 70, number(0))
	has(t, v, 71, number(0))
	lacks(t, v, 72)
	if e := v.Unbind(2); e != api.ErrRange || v.Depth() != 1 {
		t.Errorf("Unbind(2): %v, Depth = %d", e, v.Depth())
	}
}

// P4.2: a binding concerns the cell that the variable had, whatever scope is current
// later.
func TestBindScopes(t *testing.T) {
	v := vars.New()
	does(t, v.Set(70, number(1)), v.SetLocal(70, 3, number(2)), v.SetLocal(70, 4, number(3)))
	does(t, v.SetScope(3), v.Bind(70, number(4)))
	hasLocal(t, v, 70, 3, number(4))
	hasLocal(t, v, 70, 4, number(3))
	hasDefault(t, v, 70, number(1))
	// In scope 2 it has the default cell.
	does(t, v.SetScope(2), v.Bind(70, number(5)))
	has(t, v, 70, number(5))
	hasDefault(t, v, 70, number(5))
	lacksLocal(t, v, 70, 2, false)
	does(t, v.MakeLocal(70), v.Set(70, number(6)), v.SetScope(4), v.Set(70, number(7)))
	does(t, v.Unbind(1))
	hasDefault(t, v, 70, number(1))
	hasLocal(t, v, 70, 2, number(6))
	hasLocal(t, v, 70, 3, number(4))
	does(t, v.Unbind(0))
	hasLocal(t, v, 70, 3, number(2))
	hasLocal(t, v, 70, 4, number(7))
	hasLocal(t, v, 70, 2, number(6))
	hasDefault(t, v, 70, number(1))
	if v.Scope() != 4 {
		t.Error("Scope:", v.Scope())
	}
}

// P4.2: cells without a value.
func TestBindEmpty(t *testing.T) {
	v := vars.New()
	does(t, v.SetScope(3), v.MakeLocal(70), v.Bind(70, number(1)), v.Bind(71, number(2)))
	hasLocal(t, v, 70, 3, number(1))
	lacksDefault(t, v, 70)
	does(t, v.Clear(70), v.Clear(71), v.Bind(70, number(3)), v.Bind(71, number(4)), v.Unbind(2))
	lacksLocal(t, v, 70, 3, true)
	lacks(t, v, 71)
	does(t, v.Set(70, number(5)), v.Unbind(0))
	lacksLocal(t, v, 70, 3, true)
	lacksDefault(t, v, 71)
	// A value that was cleared comes back.
	does(t, v.Set(70, number(6)), v.Bind(70, number(7)), v.Clear(70), v.Unbind(0))
	hasLocal(t, v, 70, 3, number(6))
}

// P4.2, P4.3: a local cell that is gone is not restored, nor is another one in its
// place.
func TestUnbindGone(t *testing.T) {
	for name, gone := range map[string]func(v *vars.Vars) api.Errno{
		"KillLocal": func(v *vars.Vars) api.Errno { return v.KillLocal(70) },
		"Drop":      func(v *vars.Vars) api.Errno { return v.Drop(3) },
	} {
		v := vars.New()
		does(t, v.SetDefault(70, number(1)), v.SetLocal(70, 3, number(5)), v.SetLocal(70, 4, number(7)), v.SetScope(3))
		does(t, v.Bind(70, number(6)), gone(v))
		has(t, v, 70, number(1))
		does(t, v.Unbind(0))
		has(t, v, 70, number(1))
		if v.IsLocal(70, 3) || v.Depth() != 0 || len(v.Locals(3)) != 0 {
			t.Errorf("%s: local again: %v", name, v.Locals(3))
		}
		hasLocal(t, v, 70, 4, number(7))
		hasDefault(t, v, 70, number(1))
	}
}

// P4.2: a variable that is local in the scope again is restored there.
func TestUnbindAgainLocal(t *testing.T) {
	v := vars.New()
	does(t, v.SetLocal(70, 3, number(5)), v.SetLocal(71, 4, number(6)), v.SetScope(3), v.Bind(70, number(7)))
	does(t, v.SetScope(4), v.Bind(71, number(8)), v.Drop(4), v.SetLocal(71, 4, number(9)))
	does(t, v.SetScope(3), v.KillLocal(70), v.MakeLocal(70))
	lacksLocal(t, v, 70, 3, true)
	does(t, v.SetScope(0), v.Unbind(0))
	hasLocal(t, v, 70, 3, number(5))
	hasLocal(t, v, 71, 4, number(6))
	lacksDefault(t, v, 70)
	lacksDefault(t, v, 71)
}

// P4.2: a variable that became a constant is restored all the same.
func TestUnbindConstant(t *testing.T) {
	v := vars.New()
	does(t, v.Set(70, number(1)), v.Bind(70, number(2)), v.MarkConst(70))
	has(t, v, 70, number(2))
	does(t, v.Unbind(0))
	has(t, v, 70, number(1))
	if !v.Const(70) {
		t.Error("a binding took a mark away")
	}
}
