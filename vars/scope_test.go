package vars_test

import (
	"slices"
	"testing"

	"copyist/api"
	"copyist/vars"
)

// P4.3
func TestSetScope(t *testing.T) {
	v := vars.New()
	for _, k := range []int{1, 3, api.MaxScopes, 0, 0, 2, 2} {
		if e := v.SetScope(k); e != api.OK || v.Scope() != k {
			t.Errorf("SetScope(%d): %v, Scope = %d", k, e, v.Scope())
		}
		for _, bad := range noScopes() {
			if e := v.SetScope(bad); e != api.ErrRange || v.Scope() != k {
				t.Errorf("SetScope(%d): %v, Scope = %d", bad, e, v.Scope())
			}
		}
	}
}

// P4.3: the chapter's second and third example.
func TestExamples(t *testing.T) {
	v := vars.New()
	does(t, v.SetDefault(70, number(1)), v.SetScope(3), v.MakeLocal(70), v.Set(70, number(5)), v.SetScope(0))
	has(t, v, 70, number(1))
	hasLocal(t, v, 70, 3, number(5))
	does(t, v.SetScope(3), v.Bind(70, number(6)), v.KillLocal(70), v.Unbind(0))
	has(t, v, 70, number(1))
}

// P4.3
func TestMakeLocal(t *testing.T) {
	v := vars.New()
	does(t, v.SetDefault(70, number(1)), v.SetLocal(70, 4, number(2)))
	before := watch(v)
	if e := v.MakeLocal(70); e != api.ErrState {
		t.Error("MakeLocal without a scope:", e)
	}
	if e := v.MakeLocal(0); e != api.ErrConst {
		t.Error("MakeLocal of nil without a scope:", e)
	}
	stays(t, v, before)
	does(t, v.SetScope(3), v.MakeLocal(70), v.MakeLocal(71))
	hasLocal(t, v, 70, 3, number(1))
	lacksLocal(t, v, 71, 3, true)
	hasLocal(t, v, 70, 4, number(2))
	// The default cell is another one from now on.
	does(t, v.SetDefault(70, number(3)), v.SetDefault(71, number(4)))
	has(t, v, 70, number(1))
	lacks(t, v, 71)
	// Where the variable is local already, nothing is done, even without a value.
	does(t, v.MakeLocal(70), v.MakeLocal(71))
	hasLocal(t, v, 70, 3, number(1))
	lacksLocal(t, v, 71, 3, true)
	// The content is that of the default cell, not that of another scope.
	does(t, v.SetScope(api.MaxScopes), v.MakeLocal(70))
	hasLocal(t, v, 70, api.MaxScopes, number(3))
	if l := v.Locals(3); !slices.Equal(l, []int{70, 71}) {
		t.Errorf("Locals(3) = %v", l)
	}
}

// P4.3
func TestKillLocal(t *testing.T) {
	v := vars.New()
	does(t, v.SetDefault(70, number(1)), v.SetLocal(70, 3, number(2)), v.SetLocal(70, 4, number(3)), v.SetLocal(71, 3, number(4)))
	before := watch(v)
	for _, n := range []int{0, 1, 70, 72} {
		if e := v.KillLocal(n); e != api.ErrState {
			t.Errorf("KillLocal(%d) without a scope: %v", n, e)
		}
	}
	stays(t, v, before)
	does(t, v.SetScope(3), v.KillLocal(70))
	has(t, v, 70, number(1))
	lacksLocal(t, v, 70, 3, false)
	hasLocal(t, v, 70, 4, number(3))
	has(t, v, 71, number(4))
	before = watch(v)
	does(t, v.KillLocal(70), v.KillLocal(72), v.KillLocal(0))
	stays(t, v, before)
	does(t, v.KillLocal(71))
	lacks(t, v, 71)
	if l := v.Locals(3); len(l) != 0 || v.Scope() != 3 {
		t.Errorf("Locals(3) = %v, Scope = %d", l, v.Scope())
	}
	// It can be local again, with the default value of now.
	does(t, v.MakeLocal(70), v.SetLocal(71, 3, number(5)))
	hasLocal(t, v, 70, 3, number(1))
	hasLocal(t, v, 71, 3, number(5))
}

// P4.3
func TestSetLocal(t *testing.T) {
	v := vars.New()
	for i, k := range []int{1, 3, api.MaxScopes} {
		for _, w := range anyWords() {
			does(t, v.SetLocal(70, k, w))
			hasLocal(t, v, 70, k, w)
			lacks(t, v, 70)
		}
		does(t, v.SetLocal(70, k, number(i)), v.SetLocal(api.MaxSyms-1, k, number(10+i)))
	}
	for i, k := range []int{1, 3, api.MaxScopes} {
		hasLocal(t, v, 70, k, number(i))
		hasLocal(t, v, api.MaxSyms-1, k, number(10+i))
		does(t, v.SetScope(k))
		has(t, v, 70, number(i))
		does(t, v.SetLocal(70, k, number(20+i)))
		has(t, v, 70, number(20+i))
		lacksDefault(t, v, 70)
	}
	lacksLocal(t, v, 70, 2, false)
	before := watch(v)
	for _, k := range append(noScopes(), 0) {
		if e := v.SetLocal(70, k, number(5)); e != api.ErrRange {
			t.Errorf("SetLocal in %d: %v", k, e)
		}
	}
	stays(t, v, before)
}

// P4.3: 0 and numbers out of range are no scopes, even where default values are.
func TestNoScope(t *testing.T) {
	v := mixed(t)
	for _, current := range []int{0, 4} {
		does(t, v.SetScope(current))
		for _, k := range append(noScopes(), 0) {
			for _, n := range someVars() {
				lacksLocal(t, v, n, k, false)
			}
			if l := v.Locals(k); len(l) != 0 {
				t.Errorf("Locals(%d) = %v", k, l)
			}
		}
	}
}

// P4.3: the order of Locals, and that there is one for every scope.
func TestLocals(t *testing.T) {
	v := vars.New()
	for _, n := range []int{9000, 2, api.MaxSyms - 1, 71, 70, 600} {
		does(t, v.SetLocal(n, 4, number(n)))
	}
	does(t, v.SetScope(5), v.MakeLocal(72), v.MakeLocal(3), v.Clear(3))
	if l := v.Locals(4); !slices.Equal(l, []int{2, 70, 71, 600, 9000, api.MaxSyms - 1}) {
		t.Errorf("Locals(4) = %v", l)
	}
	if l := v.Locals(5); !slices.Equal(l, []int{3, 72}) {
		t.Errorf("Locals(5) = %v", l)
	}
	if l := v.Locals(6); len(l) != 0 {
		t.Errorf("Locals(6) = %v", l)
	}
}

// P4.3
func TestDefault(t *testing.T) {
	v := vars.New()
	does(t, v.SetScope(3), v.SetLocal(70, 3, number(1)))
	for _, w := range anyWords() {
		does(t, v.SetDefault(70, w))
		hasDefault(t, v, 70, w)
		has(t, v, 70, number(1))
		lacksDefault(t, v, 71)
	}
	// Where the variable is not local, its default value is its value.
	does(t, v.SetDefault(71, number(2)), v.Set(72, number(3)))
	has(t, v, 71, number(2))
	hasDefault(t, v, 72, number(3))
	does(t, v.Set(70, number(4)), v.Clear(71))
	hasDefault(t, v, 70, anyWords()[len(anyWords())-1])
	lacksDefault(t, v, 71)
	hasDefault(t, v, api.SymNil, symNil)
	hasDefault(t, v, api.SymT, symT)
}

// P4.3
func TestDrop(t *testing.T) {
	v := vars.New()
	does(t, v.SetDefault(70, number(1)), v.SetLocal(70, 3, number(2)), v.SetLocal(70, 4, number(3)), v.SetLocal(71, 4, number(4)), v.SetLocal(70, api.MaxScopes, number(5)))
	does(t, v.SetScope(4))
	before := watch(v)
	for _, k := range append(noScopes(), 0) {
		if e := v.Drop(k); e != api.ErrRange {
			t.Errorf("Drop(%d): %v", k, e)
		}
	}
	stays(t, v, before)
	// A scope that is not current, with and without local variables.
	does(t, v.Drop(3), v.Drop(2))
	lacksLocal(t, v, 70, 3, false)
	has(t, v, 70, number(3))
	if v.Scope() != 4 {
		t.Error("Scope:", v.Scope())
	}
	does(t, v.Drop(4))
	if l := v.Locals(4); len(l) != 0 || v.Scope() != 0 {
		t.Errorf("Locals(4) = %v, Scope = %d", l, v.Scope())
	}
	has(t, v, 70, number(1))
	lacks(t, v, 71)
	hasLocal(t, v, 70, api.MaxScopes, number(5))
	// A current scope without local variables, and the last one.
	does(t, v.SetScope(1), v.Drop(1), v.Drop(api.MaxScopes), v.Drop(api.MaxScopes))
	if v.Scope() != 0 {
		t.Error("Scope:", v.Scope())
	}
	lacksLocal(t, v, 70, api.MaxScopes, false)
	// The scope can be used again.
	does(t, v.SetScope(4), v.MakeLocal(70))
	hasLocal(t, v, 70, 4, number(1))
	lacksLocal(t, v, 71, 4, false)
}

// P4.3: as many scopes as there can be.
func TestAllScopes(t *testing.T) {
	v := vars.New()
	for k := api.MaxScopes; k > 0; k-- {
		does(t, v.SetLocal(70, k, number(k)))
	}
	l := v.Values()
	if len(l) != 2+api.MaxScopes {
		t.Fatal(len(l), "values")
	}
	for k := 1; k <= api.MaxScopes; k++ {
		if w, ok := v.Local(70, k); !ok || w != number(k) || l[1+k] != w {
			t.Fatalf("Local(70, %d) = %v, %v, value %v", k, w, ok, l[1+k])
		}
	}
}
