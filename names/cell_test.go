package names_test

import (
	"slices"
	"testing"

	"copyist/api"
	"copyist/names"
)

// anyWords lists words of all kinds and of none.
func anyWords() []api.Word {
	l := []api.Word{{}, {Kind: api.KindSym}, {Kind: -1, N: -1}, {Kind: most, N: least}}
	for kind := range api.KindWindow + 2 {
		l = append(l, api.Word{Kind: kind, N: 3 * kind})
	}
	return l
}

// P3.2
func TestFunc(t *testing.T) {
	x := names.New()
	a := created(t)(x.Intern("a"))
	b := created(t)(x.Fresh("a"))
	for _, n := range []int{2, 61, a, b} {
		before := watch(t, x)
		for _, w := range anyWords() {
			if e := x.SetFunc(n, w); e != api.OK {
				t.Errorf("SetFunc(%d, %v): %v", n, w, e)
			}
			if got, ok := x.Func(n); !ok || got != w {
				t.Errorf("Func(%d) = %v, %v, not %v", n, got, ok, w)
			}
		}
		before[n].function, before[n].has = x.Func(n)
		if !same(watch(t, x), before) {
			t.Errorf("the function of symbol %d changed more than that", n)
		}
	}
	for _, n := range []int{a, b, a, 60} {
		before := watch(t, x)
		if e := x.ClearFunc(n); e != api.OK {
			t.Errorf("ClearFunc(%d): %v", n, e)
		}
		if w, ok := x.Func(n); ok || w != (api.Word{}) {
			t.Errorf("after ClearFunc, Func(%d) = %v, %v", n, w, ok)
		}
		before[n].function, before[n].has = api.Word{}, false
		if !same(watch(t, x), before) {
			t.Errorf("clearing the function of symbol %d changed more than that", n)
		}
	}
	if e := x.SetFunc(a, number(9)); e != api.OK {
		t.Error("SetFunc after ClearFunc:", e)
	}
	if w, ok := x.Func(a); !ok || w != number(9) {
		t.Errorf("Func = %v, %v", w, ok)
	}
}

// P3.2: nil and t have no function, but may have properties.
func TestConstants(t *testing.T) {
	x := names.New()
	for _, n := range []int{api.SymNil, api.SymT} {
		if e := x.SetFunc(n, number(5)); e != api.ErrConst {
			t.Errorf("SetFunc(%d): %v", n, e)
		}
		if e := x.ClearFunc(n); e != api.ErrConst {
			t.Errorf("ClearFunc(%d): %v", n, e)
		}
		if w, ok := x.Func(n); ok || w != (api.Word{}) {
			t.Errorf("Func(%d) = %v, %v", n, w, ok)
		}
		if e := x.SetProp(n, n, number(5)); e != api.OK {
			t.Errorf("SetProp(%d): %v", n, e)
		}
		if w, ok := x.Prop(n, n); !ok || w != number(5) {
			t.Errorf("Prop(%d) = %v, %v", n, w, ok)
		}
	}
	// Another symbol with such a name is no constant.
	n := created(t)(x.Fresh("nil"))
	if e := x.SetFunc(n, number(5)); e != api.OK {
		t.Error("SetFunc of another nil:", e)
	}
}

// P3.2
func TestProps(t *testing.T) {
	x := names.New()
	a := created(t)(x.Intern("a"))
	b := created(t)(x.Fresh("a"))
	before := watch(t, x)
	if w, ok := x.Prop(a, 7); ok || w != (api.Word{}) || len(x.Props(a)) != 0 {
		t.Errorf("Prop = %v, %v, Props = %v", w, ok, x.Props(a))
	}
	keys := []int{7, b, 0, 9, 61, a, 1, 8}
	for i, key := range keys {
		if e := x.SetProp(a, key, number(i)); e != api.OK {
			t.Errorf("SetProp of %d: %v", key, e)
		}
	}
	want := []api.Prop{{Name: 0, Value: number(2)}, {Name: 1, Value: number(6)}, {Name: 7, Value: number(0)}, {Name: 8, Value: number(7)}, {Name: 9, Value: number(3)}, {Name: 61, Value: number(4)}, {Name: a, Value: number(5)}, {Name: b, Value: number(1)}}
	if l := x.Props(a); !slices.Equal(l, want) {
		t.Errorf("Props = %v, not %v", l, want)
	}
	for i, key := range keys {
		if w, ok := x.Prop(a, key); !ok || w != number(i) {
			t.Errorf("Prop of %d = %v, %v", key, w, ok)
		}
	}
	for _, key := range []int{2, 6, 10, 60} {
		if w, ok := x.Prop(a, key); ok || w != (api.Word{}) {
			t.Errorf("Prop of %d = %v, %v", key, w, ok)
		}
	}
	after := watch(t, x)
	after[a] = before[a]
	if !same(after, before) {
		t.Error("the properties of a symbol changed other symbols")
	}
}

// P3.2: a property has its last value, whatever it is, and nil is one.
func TestPropAgain(t *testing.T) {
	x := names.New()
	for _, w := range anyWords() {
		if e := x.SetProp(3, 4, w); e != api.OK {
			t.Errorf("SetProp of %v: %v", w, e)
		}
		if got, ok := x.Prop(3, 4); !ok || got != w {
			t.Errorf("Prop = %v, %v, not %v", got, ok, w)
		}
		if l := x.Props(3); !slices.Equal(l, []api.Prop{{Name: 4, Value: w}}) {
			t.Errorf("Props = %v, not %v alone", l, w)
		}
	}
}

// P3.2: every symbol as a key, in descending order.
func TestManyProps(t *testing.T) {
	x, last := full(t)
	for key := last; key >= 0; key-- {
		if e := x.SetProp(last, key, number(-key)); e != api.OK {
			t.Fatalf("SetProp of %d: %v", key, e)
		}
	}
	l := x.Props(last)
	if len(l) != api.MaxSyms {
		t.Fatal(len(l), "properties")
	}
	for key, p := range l {
		if p != (api.Prop{Name: key, Value: number(-key)}) {
			t.Fatalf("property %d is %v", key, p)
		}
	}
}

// P3.2: what Props returns is the caller's own.
func TestPropsShareNothing(t *testing.T) {
	x := names.New()
	x.SetProp(2, 3, number(1))
	x.SetProp(2, 5, number(2))
	before := watch(t, x)
	l := x.Props(2)
	l[0], l[1] = l[1], api.Prop{Name: 9}
	_ = append(l[:1], api.Prop{Name: 1})
	if !same(watch(t, x), before) {
		t.Error("a change of the result changed the table")
	}
	l = x.Props(2)
	x.SetProp(2, 3, number(8))
	x.SetProp(2, 4, number(8))
	if !slices.Equal(l, []api.Prop{{Name: 3, Value: number(1)}, {Name: 5, Value: number(2)}}) {
		t.Error("a change of the table changed the result:", l)
	}
}
