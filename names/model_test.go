package names_test

import (
	"maps"
	"math/rand"
	"slices"
	"testing"

	"copyist/api"
	"copyist/names"
)

// player does the same to a table and to its model, the list of what its symbols
// should be.
type player struct {
	t *testing.T
	r *rand.Rand
	x *names.Table
	m []kept
}

// symbol returns the number of a symbol, mostly of one there is.
func (p *player) symbol() int {
	if p.r.Intn(8) == 0 {
		return p.r.Intn(6) - 3 + len(p.m)*p.r.Intn(2)
	}
	// Few symbols, so that these are often chosen again.
	return p.r.Intn(len(p.m)) % 70
}

func (p *player) is(n int) bool { return n >= 0 && n < len(p.m) }

// name returns one of few names.
func (p *player) name() string {
	l := []string{"a", "b", "", "car", "nil", ",", "\u00e9", "\xff"}
	return l[p.r.Intn(len(l))]
}

// interned returns the interned symbol with the name s in the model, or -1.
func (p *player) interned(s string) int {
	return slices.IndexFunc(p.m, func(k kept) bool { return k.interned && k.name == s })
}

// intern interns a name.
func (p *player) intern() {
	s := p.name()
	got, e := p.x.Intern(s)
	want, wanted := p.interned(s), api.OK
	switch {
	case s == "\xff":
		want, wanted = 0, api.ErrForm
	case want < 0:
		want = len(p.m)
		p.m = append(p.m, kept{name: s, interned: true})
	}
	if got != want || e != wanted {
		p.t.Fatalf("Intern(%q) = %d, %v, not %d, %v", s, got, e, want, wanted)
	}
}

// fresh makes a symbol that is not interned.
func (p *player) fresh() {
	s := p.name()
	got, e := p.x.Fresh(s)
	want, wanted := len(p.m), api.OK
	if s == "\xff" {
		want, wanted = 0, api.ErrForm
	} else {
		p.m = append(p.m, kept{name: s})
	}
	if got != want || e != wanted {
		p.t.Fatalf("Fresh(%q) = %d, %v, not %d, %v", s, got, e, want, wanted)
	}
}

// define sets the function of a symbol or takes it away.
func (p *player) define() {
	n, w, has := p.symbol(), number(p.r.Intn(5)), p.r.Intn(3) > 0
	wanted := api.OK
	switch {
	case !p.is(n):
		wanted = api.ErrUnknown
	case n < 2:
		wanted = api.ErrConst
	case has:
		p.m[n].function, p.m[n].has = w, true
	default:
		p.m[n].function, p.m[n].has = api.Word{}, false
	}
	e := api.OK
	if has {
		e = p.x.SetFunc(n, w)
	} else {
		e = p.x.ClearFunc(n)
	}
	if e != wanted {
		p.t.Fatalf("the function of %d, %v: %v, not %v", n, has, e, wanted)
	}
}

// put sets a property.
func (p *player) put() {
	n, key, w := p.symbol(), p.symbol(), number(p.r.Intn(5))
	wanted := api.ErrUnknown
	if p.is(n) && p.is(key) {
		// The map may be one that a copy of the model has, too.
		props := maps.Clone(p.m[n].props)
		if props == nil {
			props = map[int]api.Word{}
		}
		props[key] = w
		p.m[n].props, wanted = props, api.OK
	}
	if e := p.x.SetProp(n, key, w); e != wanted {
		p.t.Fatalf("SetProp(%d, %d): %v, not %v", n, key, e, wanted)
	}
}

// P3.4, and with it P3.1 to P3.3: a table behaves like its model, whatever is done
// to it, and so does a copy that goes on in its place; the table that was copied
// stays as it is. The model has the symbols at fixed indexes; look checks that at
// most one of them is found by a name.
func TestModel(t *testing.T) {
	for seed := range 60 {
		x := names.New()
		p := &player{t, rand.New(rand.NewSource(int64(seed))), x, watch(t, x)}
		old, seen := x, watch(t, x)
		for range 200 {
			switch p.r.Intn(12) {
			case 0:
				old, seen = p.x, slices.Clone(p.m)
				p.x = p.x.Copy()
			case 1, 2:
				p.fresh()
			case 3, 4, 5:
				p.intern()
			case 6, 7, 8:
				p.define()
			default:
				p.put()
			}
			if got := watch(t, p.x); !same(got, p.m) {
				t.Fatalf("seed %d: the table is %v, not %v", seed, got, p.m)
			}
			if old != p.x && !same(watch(t, old), seen) {
				t.Fatalf("seed %d: the table that was copied changed", seed)
			}
		}
	}
}

// P3.4: a symbol that is not interned differs from all others with its name.
func TestTwins(t *testing.T) {
	x := names.New()
	ok := created(t)
	twins := []int{ok(x.Fresh("car")), ok(x.Intern("car")), ok(x.Fresh("car"))}
	for i, n := range twins {
		x.SetFunc(n, number(i))
		x.SetProp(n, twins[0], number(10+i))
	}
	for i, n := range twins {
		w, has := x.Func(n)
		p, with := x.Prop(n, twins[0])
		if w != number(i) || !has || p != number(10+i) || !with || x.Interned(n) != (i == 1) {
			t.Errorf("symbol %d: %v, %v; %v, %v; interned: %v", n, w, has, p, with, x.Interned(n))
		}
		if s, _ := x.Name(n); s != "car" {
			t.Errorf("symbol %d is named %q", n, s)
		}
		if l := slices.Index(twins, n); l != i {
			t.Errorf("symbols %d and %d are the same", l, i)
		}
	}
	if n, found := x.Find("car"); !found || n != twins[1] {
		t.Errorf("Find = %d, %v", n, found)
	}
}
