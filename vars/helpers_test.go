package vars_test

import (
	"fmt"
	"strings"
	"testing"

	"copyist/api"
	"copyist/vars"
)

// The least and the greatest int.
const (
	least = -1 << 63
	most  = 1<<63 - 1
)

// store is what Vars and the model have in common.
type store interface {
	Get(n int) (api.Word, bool)
	Set(n int, w api.Word) api.Errno
	Clear(n int) api.Errno
	Special(n int) bool
	MarkSpecial(n int) api.Errno
	Const(n int) bool
	MarkConst(n int) api.Errno
	Bind(n int, w api.Word) api.Errno
	Unbind(depth int) api.Errno
	Depth() int
	Scope() int
	SetScope(k int) api.Errno
	MakeLocal(n int) api.Errno
	KillLocal(n int) api.Errno
	IsLocal(n, k int) bool
	Local(n, k int) (api.Word, bool)
	SetLocal(n, k int, w api.Word) api.Errno
	Locals(k int) []int
	Default(n int) (api.Word, bool)
	SetDefault(n int, w api.Word) api.Errno
	Drop(k int) api.Errno
	Values() []api.Word
}

func number(n int) api.Word { return api.Word{Kind: api.KindInt, N: n} }

// anyWords lists words of all kinds and of none.
func anyWords() []api.Word {
	l := []api.Word{{}, {Kind: api.KindSym}, {Kind: -1, N: -1}, {Kind: most, N: least}}
	for kind := range api.KindWindow + 2 {
		l = append(l, api.Word{Kind: kind, N: 3 * kind})
	}
	return l
}

// absent lists numbers of no variable.
func absent() []int {
	return []int{-1, least, api.MaxSyms, api.MaxSyms + 1, most, 1 << 32, -1 << 32, 1<<32 + 2}
}

// noScopes lists numbers of no scope but 0.
func noScopes() []int {
	return []int{-1, least, api.MaxScopes + 1, most, 1 << 32, -1 << 32, 1<<32 + 2}
}

// someVars and someScopes list those that the tests use.
func someVars() []int   { return []int{0, 1, 2, 61, 70, 71, 72, 75, 76, api.MaxSyms - 1} }
func someScopes() []int { return []int{0, 1, 2, 3, 4, api.MaxScopes} }

// invalid lists variables that neither New nor Copy made.
func invalid() map[string]*vars.Vars {
	var none *vars.Vars
	return map[string]*vars.Vars{"nil": nil, "zero": {}, "copy of nil": none.Copy(), "copy of zero": new(vars.Vars).Copy()}
}

// does fails the test if there is an error.
func does(t *testing.T, errs ...api.Errno) {
	t.Helper()
	for i, e := range errs {
		if e != api.OK {
			t.Fatalf("call %d: %v", i, e)
		}
	}
}

// spell writes a word and whether there is one.
func spell(w api.Word, has bool) string {
	if !has && w == (api.Word{}) {
		return "none"
	}
	return fmt.Sprint(w, has)
}

// watch describes what can be seen of s.
func watch(s store) string {
	var b strings.Builder
	fmt.Fprintf(&b, "scope %d, depth %d, values %v\n", s.Scope(), s.Depth(), s.Values())
	for _, k := range someScopes() {
		fmt.Fprintf(&b, "locals of %d: %v\n", k, s.Locals(k))
	}
	for _, n := range someVars() {
		fmt.Fprintf(&b, "variable %d: %s, default %s, special %v, constant %v", n, spell(s.Get(n)), spell(s.Default(n)), s.Special(n), s.Const(n))
		for _, k := range someScopes() {
			fmt.Fprintf(&b, "; in %d %v, %s", k, s.IsLocal(n, k), spell(s.Local(n, k)))
		}
		b.WriteByte('\n')
	}
	return b.String()
}

// stays checks that s still looks like before.
func stays(t *testing.T, s store, before string) {
	t.Helper()
	if now := watch(s); now != before {
		t.Errorf("there is\n%snot\n%s", now, before)
	}
}

// has checks the value of variable n.
func has(t *testing.T, s store, n int, want api.Word) {
	t.Helper()
	if w, ok := s.Get(n); !ok || w != want {
		t.Errorf("Get(%d) = %v, %v, not %v", n, w, ok, want)
	}
}

// lacks checks that variable n has no value.
func lacks(t *testing.T, s store, n int) {
	t.Helper()
	if w, ok := s.Get(n); ok || w != (api.Word{}) {
		t.Errorf("Get(%d) = %v, %v", n, w, ok)
	}
}

// hasDefault checks the default value of variable n.
func hasDefault(t *testing.T, s store, n int, want api.Word) {
	t.Helper()
	if w, ok := s.Default(n); !ok || w != want {
		t.Errorf("Default(%d) = %v, %v, not %v", n, w, ok, want)
	}
}

// lacksDefault checks that variable n has no default value.
func lacksDefault(t *testing.T, s store, n int) {
	t.Helper()
	if w, ok := s.Default(n); ok || w != (api.Word{}) {
		t.Errorf("Default(%d) = %v, %v", n, w, ok)
	}
}

// hasLocal checks the value of variable n in scope k.
func hasLocal(t *testing.T, s store, n, k int, want api.Word) {
	t.Helper()
	if w, ok := s.Local(n, k); !ok || w != want || !s.IsLocal(n, k) {
		t.Errorf("Local(%d, %d) = %v, %v, not %v; local: %v", n, k, w, ok, want, s.IsLocal(n, k))
	}
}

// lacksLocal checks that variable n has no value in scope k, and whether it is local
// there.
func lacksLocal(t *testing.T, s store, n, k int, local bool) {
	t.Helper()
	if w, ok := s.Local(n, k); ok || w != (api.Word{}) || s.IsLocal(n, k) != local {
		t.Errorf("Local(%d, %d) = %v, %v; local: %v", n, k, w, ok, s.IsLocal(n, k))
	}
}
