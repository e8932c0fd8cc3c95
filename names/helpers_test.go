package names_test

import (
	"maps"
	"slices"
	"strings"
	"testing"

	"copyist/api"
	"copyist/names"
)

// The least and the greatest int.
const (
	least = -1 << 63
	most  = 1<<63 - 1
)

func number(n int) api.Word { return api.Word{Kind: api.KindInt, N: n} }

// created returns a function that returns the number of a symbol and fails the test
// if there was an error.
func created(t *testing.T) func(int, api.Errno) int {
	return func(n int, e api.Errno) int {
		t.Helper()
		if e != api.OK {
			t.Fatal("there is no symbol:", e)
		}
		return n
	}
}

// full returns a table with MaxSyms symbols and the number of one of them, which is
// interned as "last".
func full(t *testing.T) (*names.Table, int) {
	t.Helper()
	x := names.New()
	for x.Many() < api.MaxSyms-1 {
		created(t)(x.Fresh("filler"))
	}
	return x, created(t)(x.Intern("last"))
}

// invalid lists tables that neither New nor Copy made.
func invalid() map[string]*names.Table {
	var none *names.Table
	return map[string]*names.Table{"nil": nil, "zero": {}, "copy of nil": none.Copy(), "copy of zero": new(names.Table).Copy()}
}

// malformed lists strings that are not valid.
func malformed() []string {
	return []string{"\xff", "a\xffb", "\xc3", "\xc0\xaf", "\xed\xa0\x80", "\xf4\x90\x80\x80"}
}

// tooLong lists valid strings of more than MaxName characters.
func tooLong() []string {
	return []string{strings.Repeat("a", 1001), strings.Repeat("\u20ac", 1001), strings.Repeat("a", 70000)}
}

// absent lists numbers of no symbol of x.
func absent(x *names.Table) []int {
	return []int{-1, least, x.Many(), x.Many() + 1, most, 1 << 32, -1 << 32, -1<<32 + 2, 1<<32 + 2}
}

// kept is all that can be seen of a symbol.
type kept struct {
	name     string
	interned bool
	function api.Word
	has      bool
	props    map[int]api.Word
}

func sameKept(a, b kept) bool {
	return a.name == b.name && a.interned == b.interned && a.function == b.function && a.has == b.has && maps.Equal(a.props, b.props)
}

// look returns what can be seen of symbol n, and fails the test where one method
// contradicts another.
func look(t *testing.T, x *names.Table, n int) kept {
	t.Helper()
	s, ok := x.Name(n)
	if !ok {
		t.Fatalf("symbol %d of %d has no name", n, x.Many())
	}
	k := kept{name: s, interned: x.Interned(n), props: map[int]api.Word{}}
	k.function, k.has = x.Func(n)
	if found, ok := x.Find(s); (ok && found == n) != k.interned {
		t.Fatalf("symbol %d, interned: %v, but Find(%q) = %d, %v", n, k.interned, s, found, ok)
	}
	last := -1
	for _, p := range x.Props(n) {
		if w, ok := x.Prop(n, p.Name); !ok || w != p.Value || p.Name <= last {
			t.Fatalf("symbol %d: Props has %v after %d, Prop returns %v, %v", n, p, last, w, ok)
		}
		k.props[p.Name], last = p.Value, p.Name
	}
	return k
}

// watch returns what can be seen of all symbols of x.
func watch(t *testing.T, x *names.Table) []kept {
	t.Helper()
	var l []kept
	for n := range x.Many() {
		l = append(l, look(t, x, n))
	}
	return l
}

func same(a, b []kept) bool { return slices.EqualFunc(a, b, sameKept) }
