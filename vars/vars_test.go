package vars_test

import (
	"slices"
	"testing"

	"copyist/api"
	"copyist/vars"
)

// The words of nil and t.
var (
	symNil = api.Word{Kind: api.KindSym, N: api.SymNil}
	symT   = api.Word{Kind: api.KindSym, N: api.SymT}
)

// P4.1, and the chapter's words on a new object.
func TestNew(t *testing.T) {
	v := vars.New()
	has(t, v, api.SymNil, symNil)
	has(t, v, api.SymT, symT)
	for n := range api.MaxSyms {
		fixed := n == api.SymNil || n == api.SymT
		if v.Special(n) != fixed || v.Const(n) != fixed {
			t.Fatalf("variable %d, special: %v, constant: %v", n, v.Special(n), v.Const(n))
		}
		if !fixed {
			lacks(t, v, n)
			lacksDefault(t, v, n)
		}
	}
	for _, k := range someScopes() {
		if l := v.Locals(k); len(l) != 0 {
			t.Errorf("Locals(%d) = %v", k, l)
		}
	}
	if l := v.Values(); !slices.Equal(l, []api.Word{symNil, symT}) || v.Scope() != 0 || v.Depth() != 0 {
		t.Errorf("Values = %v, Scope = %d, Depth = %d", l, v.Scope(), v.Depth())
	}
	// One object has nothing to do with another.
	does(t, v.Set(2, number(1)), v.MarkSpecial(2), v.SetScope(1), v.MakeLocal(2), v.Bind(2, number(2)))
	stays(t, vars.New(), watch(vars.New()))
	lacks(t, vars.New(), 2)
}

// P4.1: every word can be a value of every variable.
func TestSet(t *testing.T) {
	v := vars.New()
	for _, n := range []int{2, 61, 70, api.MaxSyms - 1} {
		for _, w := range anyWords() {
			does(t, v.Set(n, w))
			has(t, v, n, w)
			hasDefault(t, v, n, w)
		}
	}
	does(t, v.Set(70, number(5)))
	lacks(t, v, 69)
	lacks(t, v, 71)
	has(t, v, 61, anyWords()[len(anyWords())-1])
}

// P4.1: all variables at the same time.
func TestSetAll(t *testing.T) {
	v := vars.New()
	for n := 2; n < api.MaxSyms; n++ {
		does(t, v.Set(n, number(-n)))
	}
	l := v.Values()
	if len(l) != api.MaxSyms || l[0] != symNil || l[1] != symT {
		t.Fatalf("%d values: %v..", len(l), l[:2])
	}
	for n := 2; n < api.MaxSyms; n++ {
		has(t, v, n, number(-n))
		if l[n] != number(-n) {
			t.Fatalf("value %d is %v", n, l[n])
		}
	}
}

// P4.1: Set and Clear concern the cell alone.
func TestCell(t *testing.T) {
	v := vars.New()
	does(t, v.SetDefault(70, number(1)), v.SetLocal(70, 3, number(2)), v.SetLocal(70, 4, number(3)), v.SetLocal(71, 4, number(4)))
	does(t, v.SetScope(3), v.Set(70, number(5)), v.Set(71, number(6)))
	has(t, v, 70, number(5))
	hasDefault(t, v, 70, number(1))
	hasLocal(t, v, 70, 3, number(5))
	hasLocal(t, v, 70, 4, number(3))
	has(t, v, 71, number(6))
	hasDefault(t, v, 71, number(6))
	lacksLocal(t, v, 71, 3, false)
	hasLocal(t, v, 71, 4, number(4))

	does(t, v.Clear(70), v.Clear(71))
	lacks(t, v, 70)
	lacksLocal(t, v, 70, 3, true)
	hasDefault(t, v, 70, number(1))
	hasLocal(t, v, 70, 4, number(3))
	lacks(t, v, 71)
	lacksDefault(t, v, 71)
	hasLocal(t, v, 71, 4, number(4))
	if l := v.Locals(3); !slices.Equal(l, []int{70}) {
		t.Errorf("Locals(3) = %v", l)
	}

	// A cell that was cleared can be cleared again and set again.
	does(t, v.Clear(70), v.Set(70, number(7)), v.Clear(72), v.SetScope(4), v.Set(71, number(8)))
	hasLocal(t, v, 70, 3, number(7))
	hasDefault(t, v, 70, number(1))
	lacks(t, v, 72)
	hasLocal(t, v, 71, 4, number(8))
	lacksDefault(t, v, 71)
}

// constantErrors checks that the value of variable n cannot be changed.
func constantErrors(t *testing.T, v *vars.Vars, n int) {
	t.Helper()
	before := watch(v)
	for name, e := range map[string]api.Errno{
		"Set":        v.Set(n, number(5)),
		"Clear":      v.Clear(n),
		"Bind":       v.Bind(n, number(5)),
		"MakeLocal":  v.MakeLocal(n),
		"SetLocal":   v.SetLocal(n, 3, number(5)),
		"SetDefault": v.SetDefault(n, number(5)),
	} {
		if e != api.ErrConst {
			t.Errorf("%s(%d): %v", name, n, e)
		}
	}
	// The scope is checked before.
	for _, k := range append(noScopes(), 0) {
		if e := v.SetLocal(n, k, number(5)); e != api.ErrRange {
			t.Errorf("SetLocal(%d, %d): %v", n, k, e)
		}
	}
	stays(t, v, before)
}

// P4.1 to P4.3: constants.
func TestConstants(t *testing.T) {
	v := vars.New()
	does(t, v.Set(75, number(1)), v.SetLocal(75, 3, number(2)), v.MarkConst(75), v.MarkConst(76))
	for _, n := range []int{0, 1, 75, 76} {
		for _, k := range []int{0, 1, 3} {
			does(t, v.SetScope(k))
			constantErrors(t, v, n)
		}
	}
	// A constant keeps its cells, and can be made local no more.
	has(t, v, 75, number(2))
	does(t, v.KillLocal(75), v.KillLocal(0))
	has(t, v, 75, number(1))
	lacksLocal(t, v, 75, 3, false)
	does(t, v.SetScope(0))
	if e := v.KillLocal(75); e != api.ErrState {
		t.Error("KillLocal:", e)
	}
}

// P4.1
func TestMarks(t *testing.T) {
	v := vars.New()
	does(t, v.Set(70, number(1)), v.SetLocal(71, 3, number(2)))
	marks := func(n int, special, constant bool) {
		t.Helper()
		if v.Special(n) != special || v.Const(n) != constant {
			t.Errorf("variable %d, special: %v, constant: %v", n, v.Special(n), v.Const(n))
		}
	}
	for range 2 {
		does(t, v.MarkSpecial(70), v.MarkSpecial(72), v.MarkSpecial(api.MaxSyms-1))
		for n, special := range map[int]bool{69: false, 70: true, 71: false, 72: true, 73: false, api.MaxSyms - 1: true} {
			marks(n, special, false)
		}
	}
	has(t, v, 70, number(1))
	lacks(t, v, 72)
	// A special variable can be changed, and stays special.
	does(t, v.Set(70, number(3)), v.Clear(70), v.Bind(70, number(4)), v.Unbind(0), v.SetDefault(70, number(5)), v.SetLocal(70, 3, number(6)))
	does(t, v.SetScope(3), v.MakeLocal(70), v.KillLocal(70), v.Drop(3))
	marks(70, true, false)

	does(t, v.SetLocal(71, 3, number(2)))
	for range 2 {
		does(t, v.MarkConst(70), v.MarkConst(71))
		marks(70, true, true)
		marks(71, true, true)
		marks(72, true, false)
		does(t, v.MarkSpecial(70), v.MarkSpecial(0))
	}
	marks(70, true, true)
	marks(0, true, true)
	has(t, v, 70, number(5))
	hasLocal(t, v, 71, 3, number(2))
}

// nothing checks that the methods that return no error find nothing of variable n in
// scope k.
func nothing(t *testing.T, v *vars.Vars, n, k int) {
	t.Helper()
	lacks(t, v, n)
	lacksDefault(t, v, n)
	lacksLocal(t, v, n, k, false)
	if v.Special(n) || v.Const(n) {
		t.Errorf("variable %d, special: %v, constant: %v", n, v.Special(n), v.Const(n))
	}
}

// errorsOf returns the errors of all methods with variable n and scope k.
func errorsOf(v *vars.Vars, n, k int) map[string]api.Errno {
	return map[string]api.Errno{
		"Set":         v.Set(n, number(5)),
		"Clear":       v.Clear(n),
		"MarkSpecial": v.MarkSpecial(n),
		"MarkConst":   v.MarkConst(n),
		"Bind":        v.Bind(n, number(5)),
		"MakeLocal":   v.MakeLocal(n),
		"KillLocal":   v.KillLocal(n),
		"SetLocal":    v.SetLocal(n, k, number(5)),
		"SetDefault":  v.SetDefault(n, number(5)),
	}
}

// P4.1 to P4.3: numbers of no variable.
func TestUnknown(t *testing.T) {
	v := vars.New()
	does(t, v.Set(2, number(1)), v.SetLocal(2, 3, number(2)))
	// No other error comes before: no scope is current, too many bindings.
	for i := range api.MaxBinds {
		does(t, v.Bind(70, number(i)))
	}
	for _, current := range []int{0, 3} {
		does(t, v.SetScope(current))
		before := watch(v)
		for _, n := range absent() {
			for _, k := range append(noScopes(), 0, 1, 3, api.MaxScopes) {
				nothing(t, v, n, k)
				for name, e := range errorsOf(v, n, k) {
					if e != api.ErrUnknown {
						t.Errorf("%s of variable %d and scope %d: %v", name, n, k, e)
					}
				}
			}
		}
		stays(t, v, before)
	}
}

// P4.1 to P4.4: invalid objects.
func TestInvalid(t *testing.T) {
	for name, v := range invalid() {
		for _, n := range append(absent(), someVars()...) {
			for _, k := range append(noScopes(), someScopes()...) {
				nothing(t, v, n, k)
				errs := errorsOf(v, n, k)
				errs["SetScope"], errs["Drop"], errs["Unbind"] = v.SetScope(k), v.Drop(k), v.Unbind(k)
				for method, e := range errs {
					if e != api.ErrNil {
						t.Errorf("%s: %s of variable %d and scope %d: %v", name, method, n, k, e)
					}
				}
				if l := v.Locals(k); len(l) != 0 {
					t.Errorf("%s: Locals(%d) = %v", name, k, l)
				}
			}
		}
		if v.Scope() != 0 || v.Depth() != 0 || len(v.Values()) != 0 || v.Copy() != nil {
			t.Errorf("%s: Scope = %d, Depth = %d, Values = %v, Copy = %v", name, v.Scope(), v.Depth(), v.Values(), v.Copy())
		}
	}
}

// mixed returns variables with values 1 to 9, in the order of Values, and a few cells
// without a value.
func mixed(t *testing.T) *vars.Vars {
	t.Helper()
	v := vars.New()
	does(t, v.SetLocal(72, api.MaxScopes, number(6)), v.SetLocal(70, 4, number(5)), v.SetLocal(72, 3, number(4)), v.SetLocal(2, 3, number(3)))
	does(t, v.Set(70, number(2)), v.Set(61, number(1)), v.Set(71, number(7)))
	// What bindings record: of 71 a value, then none, of 70 in scope 4 a value, of 72
	// none.
	does(t, v.Bind(71, number(0)), v.Clear(71), v.Bind(71, number(0)), v.Clear(71))
	does(t, v.SetLocal(70, 4, number(8)), v.SetScope(4), v.Bind(70, number(5)), v.Bind(72, number(0)), v.Clear(72))
	does(t, v.SetDefault(75, number(9)), v.SetScope(2), v.Bind(75, number(0)), v.Clear(75))
	// Local without a value.
	does(t, v.MakeLocal(71), v.MakeLocal(76))
	return v
}

// P4.4
func TestValues(t *testing.T) {
	v := mixed(t)
	want := []api.Word{symNil, symT}
	for n := 1; n <= 9; n++ {
		want = append(want, number(n))
	}
	if l := v.Values(); !slices.Equal(l, want) {
		t.Errorf("Values = %v, not %v", l, want)
	}
	// A binding of a cell that is gone still has its value.
	does(t, v.Drop(4))
	want = slices.Delete(want, 6, 7)
	if l := v.Values(); !slices.Equal(l, want) {
		t.Errorf("after Drop, Values = %v, not %v", l, want)
	}
	// A word of which there are several cells is returned as often.
	v = vars.New()
	does(t, v.Set(3, symT), v.Set(2, symT), v.SetLocal(2, 1, symT), v.Bind(2, symT))
	if l := v.Values(); !slices.Equal(l, []api.Word{symNil, symT, symT, symT, symT, symT}) {
		t.Errorf("Values = %v", l)
	}
}

// P4.4: nil and t are among the values that are returned, at their places.
func TestValuesOfWords(t *testing.T) {
	v := vars.New()
	want := []api.Word{symNil, symT}
	for i, w := range anyWords() {
		does(t, v.Set(70+i, w))
		want = append(want, w)
	}
	for i, w := range anyWords() {
		does(t, v.SetLocal(70, 1+i, w))
		want = append(want, w)
	}
	for i, w := range anyWords() {
		does(t, v.Bind(70+i, number(0)))
		want[2+i] = number(0)
		want = append(want, w)
	}
	if l := v.Values(); !slices.Equal(l, want) {
		t.Errorf("Values = %v, not %v", l, want)
	}
}

// changeAll changes about all that there is in mixed variables.
func changeAll(t *testing.T, v *vars.Vars) {
	t.Helper()
	does(t, v.MarkSpecial(76), v.MarkConst(61), v.Set(70, number(10)), v.SetDefault(72, number(11)), v.Set(76, number(12)))
	does(t, v.SetLocal(72, 3, number(13)), v.SetLocal(2, 1, number(14)), v.SetScope(4), v.Set(70, number(15)))
	does(t, v.Unbind(1), v.Bind(72, number(16)), v.Bind(2, number(17)), v.SetScope(3), v.KillLocal(2), v.Drop(api.MaxScopes))
}

// P4.4: a copy is the same, and what is done to one of the two does not show in the
// other.
func TestCopy(t *testing.T) {
	v := mixed(t)
	does(t, v.MarkSpecial(70), v.MarkConst(75))
	before := watch(v)
	o := v.Copy()
	stays(t, o, before)
	changeAll(t, o)
	after := watch(o)
	stays(t, v, before)
	o = v.Copy()
	changeAll(t, v)
	stays(t, o, before)
	// The copy goes on in the same way, and so does a copy of it.
	c := o.Copy()
	stays(t, c, before)
	changeAll(t, c)
	stays(t, c, after)
	stays(t, v, after)
	stays(t, o, before)
}

// P4.4: the bindings of a copy are its own: undoing them restores the cells of the
// copy alone.
func TestCopyOfBindings(t *testing.T) {
	v := vars.New()
	does(t, v.Set(70, number(1)), v.Bind(70, number(2)), v.SetLocal(71, 3, number(3)), v.SetScope(3), v.Bind(71, number(4)))
	before := watch(v)
	o := v.Copy()
	does(t, o.Unbind(0))
	has(t, o, 70, number(1))
	has(t, o, 71, number(3))
	stays(t, v, before)
	o = v.Copy()
	does(t, v.Unbind(1), v.Bind(72, number(5)), v.Bind(72, number(6)))
	stays(t, o, before)
	does(t, v.Unbind(0))
	stays(t, o, before)
	does(t, o.Unbind(0))
	stays(t, o, watch(v))
}

// P4.3, P4.4: results are the caller's own.
func TestResultsShareNothing(t *testing.T) {
	v := mixed(t)
	before := watch(v)
	l, k := v.Values(), v.Locals(3)
	for i := range l {
		l[i] = number(-1)
	}
	k[0], k[1] = 5, 6
	_, _ = append(l[:1], number(-2)), append(k[:1], 7)
	stays(t, v, before)
	l, k = v.Values(), v.Locals(3)
	old, locals := slices.Clone(l), slices.Clone(k)
	changeAll(t, v)
	if !slices.Equal(l, old) || !slices.Equal(k, locals) {
		t.Error("a change of the variables changed a result")
	}
}
