package vars_test

import (
	"cmp"
	"math/rand"
	"slices"
	"testing"

	"copyist/api"
	"copyist/vars"
)

// slot is a cell, of scope 0 for a default value, and its content.
type slot struct {
	n, k int
	w    api.Word
	has  bool
}

// model does what Vars does, as the chapter says it, with lists.
type model struct {
	slots             []slot
	special, constant []int
	scope             int
	bound             []slot
}

func newModel() *model {
	return &model{slots: []slot{{0, 0, symNil, true}, {1, 0, symT, true}}, constant: []int{0, 1}}
}

func (m *model) copy() *model {
	return &model{slices.Clone(m.slots), slices.Clone(m.special), slices.Clone(m.constant), m.scope, slices.Clone(m.bound)}
}

func (m *model) at(n, k int) int {
	return slices.IndexFunc(m.slots, func(s slot) bool { return s.n == n && s.k == k })
}

func (m *model) look(n, k int) slot {
	if i := m.at(n, k); i >= 0 {
		return m.slots[i]
	}
	return slot{n: n, k: k}
}

func (m *model) put(s slot) api.Errno {
	m.remove(s.n, s.k)
	m.slots = append(m.slots, s)
	return api.OK
}

func (m *model) remove(n, k int) {
	m.slots = slices.DeleteFunc(m.slots, func(s slot) bool { return s.n == n && s.k == k })
}

func (m *model) current(n int) slot {
	if m.IsLocal(n, m.scope) {
		return m.look(n, m.scope)
	}
	return m.look(n, 0)
}

// wrong returns the error that variable n causes, if it is changed or not.
func (m *model) wrong(n int, change bool) api.Errno {
	switch {
	case n < 0 || n >= 16384:
		return api.ErrUnknown
	case change && m.Const(n):
		return api.ErrConst
	}
	return api.OK
}

func (m *model) assign(n int, w api.Word, has bool) api.Errno {
	if e := m.wrong(n, true); e != api.OK {
		return e
	}
	s := m.current(n)
	s.w, s.has = w, has
	return m.put(s)
}

func (m *model) Get(n int) (api.Word, bool)      { s := m.current(n); return s.w, s.has }
func (m *model) Set(n int, w api.Word) api.Errno { return m.assign(n, w, true) }
func (m *model) Clear(n int) api.Errno           { return m.assign(n, api.Word{}, false) }
func (m *model) Special(n int) bool              { return slices.Contains(m.special, n) || m.Const(n) }
func (m *model) Const(n int) bool                { return slices.Contains(m.constant, n) }
func (m *model) Depth() int                      { return len(m.bound) }
func (m *model) Scope() int                      { return m.scope }
func (m *model) IsLocal(n, k int) bool           { return k > 0 && m.at(n, k) >= 0 }
func (m *model) Default(n int) (api.Word, bool)  { s := m.look(n, 0); return s.w, s.has }
func (m *model) MarkSpecial(n int) api.Errno     { return m.mark(&m.special, n) }
func (m *model) MarkConst(n int) api.Errno       { return m.mark(&m.constant, n) }
func (m *model) mark(l *[]int, n int) (e api.Errno) {
	if e = m.wrong(n, false); e == api.OK {
		*l = append(*l, n)
	}
	return e
}

func (m *model) Bind(n int, w api.Word) api.Errno {
	if e := m.wrong(n, true); e != api.OK {
		return e
	}
	if len(m.bound) == 2000 {
		return api.ErrDepth
	}
	m.bound = append(m.bound, m.current(n))
	return m.Set(n, w)
}

func (m *model) Unbind(depth int) api.Errno {
	if depth < 0 || depth > len(m.bound) {
		return api.ErrRange
	}
	for len(m.bound) > depth {
		s := m.bound[len(m.bound)-1]
		m.bound = m.bound[:len(m.bound)-1]
		if s.k == 0 || m.IsLocal(s.n, s.k) {
			m.put(s)
		}
	}
	return api.OK
}

func (m *model) SetScope(k int) api.Errno {
	if k < 0 || k > 65536 {
		return api.ErrRange
	}
	m.scope = k
	return api.OK
}

func (m *model) MakeLocal(n int) api.Errno {
	if e := m.wrong(n, true); e != api.OK {
		return e
	}
	if m.scope == 0 {
		return api.ErrState
	}
	if !m.IsLocal(n, m.scope) {
		s := m.look(n, 0)
		s.k = m.scope
		m.put(s)
	}
	return api.OK
}

func (m *model) KillLocal(n int) api.Errno {
	if e := m.wrong(n, false); e != api.OK {
		return e
	}
	if m.scope == 0 {
		return api.ErrState
	}
	m.remove(n, m.scope)
	return api.OK
}

func (m *model) Local(n, k int) (api.Word, bool) {
	if !m.IsLocal(n, k) {
		return api.Word{}, false
	}
	s := m.look(n, k)
	return s.w, s.has
}

func (m *model) SetLocal(n, k int, w api.Word) api.Errno {
	if e := m.wrong(n, false); e != api.OK {
		return e
	}
	if k < 1 || k > 65536 {
		return api.ErrRange
	}
	if m.Const(n) {
		return api.ErrConst
	}
	return m.put(slot{n, k, w, true})
}

func (m *model) Locals(k int) []int {
	var l []int
	for _, s := range m.slots {
		if k > 0 && s.k == k {
			l = append(l, s.n)
		}
	}
	slices.Sort(l)
	return l
}

func (m *model) SetDefault(n int, w api.Word) api.Errno {
	if e := m.wrong(n, true); e != api.OK {
		return e
	}
	return m.put(slot{n, 0, w, true})
}

func (m *model) Drop(k int) api.Errno {
	if k < 1 || k > 65536 {
		return api.ErrRange
	}
	m.slots = slices.DeleteFunc(m.slots, func(s slot) bool { return s.k == k })
	if m.scope == k {
		m.scope = 0
	}
	return api.OK
}

func (m *model) Values() []api.Word {
	l := slices.Clone(m.slots)
	slices.SortFunc(l, func(a, b slot) int { return cmp.Or(a.k-b.k, a.n-b.n) })
	var ws []api.Word
	for _, s := range append(l, m.bound...) {
		if s.has {
			ws = append(ws, s.w)
		}
	}
	return ws
}

// pick returns one of l.
func pick(r *rand.Rand, l []int) int { return l[r.Intn(len(l))] }

// step returns a random call.
func step(r *rand.Rand, depth int) (string, func(store) api.Errno) {
	n, k, w := pick(r, []int{70, 70, 71, 71, 72, 76, 0, -1, api.MaxSyms}), pick(r, []int{1, 2, 2, 3, 3, 0, -1, api.MaxScopes, api.MaxScopes + 1}), number(r.Intn(9))
	switch r.Intn(24) {
	case 0, 1, 2:
		return "Set", func(s store) api.Errno { return s.Set(n, w) }
	case 3, 4:
		return "Clear", func(s store) api.Errno { return s.Clear(n) }
	case 5:
		return "MarkSpecial", func(s store) api.Errno { return s.MarkSpecial(n) }
	case 6:
		// 76 alone, since nothing can be done with constants.
		return "MarkConst", func(s store) api.Errno {
			return s.MarkConst(pick(rand.New(rand.NewSource(int64(w.N))), []int{76, 0, -1}))
		}
	case 7, 8, 9, 10:
		return "Bind", func(s store) api.Errno { return s.Bind(n, w) }
	case 11, 12:
		to := depth - r.Intn(4)
		return "Unbind", func(s store) api.Errno { return s.Unbind(to) }
	case 13, 14, 15:
		return "SetScope", func(s store) api.Errno { return s.SetScope(k) }
	case 16, 17, 18:
		return "MakeLocal", func(s store) api.Errno { return s.MakeLocal(n) }
	case 19:
		return "KillLocal", func(s store) api.Errno { return s.KillLocal(n) }
	case 20, 21:
		return "SetLocal", func(s store) api.Errno { return s.SetLocal(n, k, w) }
	case 22:
		return "SetDefault", func(s store) api.Errno { return s.SetDefault(n, w) }
	default:
		return "Drop", func(s store) api.Errno { return s.Drop(k) }
	}
}

// P4.1 to P4.4: variables behave like their model, whatever is done to them, and so
// does a copy that goes on in their place; what was copied stays as it is.
func TestModel(t *testing.T) {
	for seed := range 60 {
		r := rand.New(rand.NewSource(int64(seed)))
		v, m := vars.New(), newModel()
		old, seen := v, watch(v)
		for range 200 {
			if r.Intn(20) == 0 {
				old, seen = v, watch(v)
				v, m = v.Copy(), m.copy()
			}
			name, f := step(r, v.Depth())
			if got, want := f(v), f(m); got != want {
				t.Fatalf("seed %d: %s: %v, not %v", seed, name, got, want)
			}
			if got, want := watch(v), watch(m); got != want {
				t.Fatalf("seed %d: after %s there is\n%snot\n%s", seed, name, got, want)
			}
			if old != v && watch(old) != seen {
				t.Fatalf("seed %d: %s changed what was copied", seed, name)
			}
		}
	}
}

// scatter returns variables with random cells of 70 to 72 in scopes 0 to 3.
func scatter(t *testing.T, r *rand.Rand) *vars.Vars {
	t.Helper()
	v := vars.New()
	for n := 70; n <= 72; n++ {
		for k := range 4 {
			does(t, v.SetScope(k))
			if k > 0 && r.Intn(2) == 0 {
				does(t, v.MakeLocal(n))
			}
			if r.Intn(3) > 0 {
				does(t, v.Set(n, number(r.Intn(9))))
			} else {
				does(t, v.Clear(n))
			}
		}
	}
	return v
}

// assign changes the value of a random cell of a variable that scatter uses.
func assign(t *testing.T, v *vars.Vars, r *rand.Rand) {
	t.Helper()
	n, k, w := 70+r.Intn(3), 1+r.Intn(3), number(r.Intn(9))
	does(t, v.SetScope(r.Intn(4)))
	switch r.Intn(5) {
	case 0:
		does(t, v.Clear(n))
	case 1:
		does(t, v.SetDefault(n, w))
	case 2:
		if v.IsLocal(n, k) {
			does(t, v.SetLocal(n, k, w))
		}
	case 3:
		does(t, v.Bind(n, w))
	default:
		does(t, v.Set(n, w))
	}
}

// P4.5: after all cells of some variables were bound, undoing that restores them all,
// whatever was assigned.
func TestUnbindRestores(t *testing.T) {
	for seed := range 200 {
		r := rand.New(rand.NewSource(int64(seed)))
		v := scatter(t, r)
		does(t, v.SetScope(0), v.Bind(75, number(1)))
		before := watch(v)
		for n := 70; n <= 72; n++ {
			for k := range 4 {
				does(t, v.SetScope(k), v.Bind(n, number(r.Intn(9))))
			}
		}
		for range 30 {
			assign(t, v, r)
		}
		does(t, v.Unbind(1), v.SetScope(0))
		if now := watch(v); now != before {
			t.Fatalf("seed %d: there is\n%snot\n%s", seed, now, before)
		}
	}
}

// P4.5: a local value that is assigned is seen in its scope alone.
func TestLocalsApart(t *testing.T) {
	for seed := range 200 {
		r := rand.New(rand.NewSource(int64(seed)))
		v := scatter(t, r)
		n, k, w := 70+r.Intn(3), 1+r.Intn(3), number(10)
		does(t, v.SetScope(k), v.MakeLocal(n))
		o := v.Copy()
		switch r.Intn(4) {
		case 0:
			does(t, v.Set(n, w))
		case 1:
			does(t, v.SetLocal(n, k, w))
		case 2:
			does(t, v.Bind(n, w))
		default:
			does(t, v.Clear(n), v.SetScope(0), v.SetLocal(n, k, w), v.SetScope(k))
		}
		hasLocal(t, v, n, k, w)
		for i := 70; i <= 72; i++ {
			for j := 1; j <= 3; j++ {
				if got, want := spell(v.Local(i, j)), spell(o.Local(i, j)); (i != n || j != k) && got != want {
					t.Errorf("seed %d: Local(%d, %d) = %s, not %s", seed, i, j, got, want)
				}
			}
			if got, want := spell(v.Default(i)), spell(o.Default(i)); got != want {
				t.Errorf("seed %d: Default(%d) = %s, not %s", seed, i, got, want)
			}
		}
	}
}
