package forms_test

import (
	"math/rand"
	"slices"
	"testing"

	"copyist/api"
	"copyist/forms"
	"copyist/lists"
)

// model translates words by the chapter's definitions, step by step, on a heap and a
// table of its own.
type model struct{ desk }

// after returns the second element of a list of exactly two elements whose first is the
// symbol s.
func (m model) after(s int, w api.Word) (api.Word, bool) {
	if l := m.elements(w); len(l) == 2 && l[0] == symbol(s) {
		return l[1], true
	}
	return api.Word{}, false
}

// isConstant reports whether no comma at level 1 occurs in w.
func (m model) isConstant(w api.Word, level int) bool {
	for _, s := range []int{api.SymComma, api.SymSplice} {
		if x, ok := m.after(s, w); ok {
			return level > 1 && m.isConstant(x, level-1)
		}
	}
	if x, ok := m.after(api.SymBack, w); ok {
		return m.isConstant(x, level+1)
	}
	for _, x := range contentOf(m.h, w).parts {
		if !m.isConstant(x, level) {
			return false
		}
	}
	return true
}

// form returns the form of w at a level.
func (m model) form(w api.Word, level int) (api.Word, api.Errno) {
	atom := w.Kind != api.KindCons && w.Kind != api.KindVec && (w.Kind != api.KindSym || w == null || w == truth)
	_, splices := m.after(api.SymSplice, w)
	x, commas := m.after(api.SymComma, w)
	switch {
	case m.isConstant(w, level) && atom:
		return w, api.OK
	case m.isConstant(w, level):
		return lists.Make(m.h, []api.Word{symbol(api.SymQuote), w})
	case commas && level == 1:
		return x, api.OK
	case splices && level == 1:
		return api.Word{}, api.ErrForm
	case w.Kind == api.KindVec:
		return m.vector(w, level)
	}
	return m.cons(w, level)
}

// cons returns the form of a cons that is not constant.
func (m model) cons(w api.Word, level int) (api.Word, api.Errno) {
	for s, up := range map[int]int{api.SymComma: -1, api.SymSplice: -1, api.SymBack: 1} {
		if _, ok := m.after(s, w); ok {
			level += up
		}
	}
	name := "cons"
	parts := contentOf(m.h, w).parts
	first, spliced := m.after(api.SymSplice, parts[0])
	if spliced && level == 1 {
		name = "append"
	} else {
		var err api.Errno
		if first, err = m.form(parts[0], level); err != api.OK {
			return api.Word{}, err
		}
	}
	rest, err := m.form(parts[1], level)
	if err != api.OK {
		return api.Word{}, err
	}
	return m.call(name, first, rest)
}

// vector returns the form of a vector that is not constant.
func (m model) vector(w api.Word, level int) (api.Word, api.Errno) {
	l, err := lists.Make(m.h, contentOf(m.h, w).parts)
	if err != api.OK {
		return api.Word{}, err
	}
	f, err := m.form(l, level)
	if err != api.OK {
		return api.Word{}, err
	}
	// The symbol apply has a fixed number.
	n, err := m.n.Intern("vector")
	if err != api.OK {
		return api.Word{}, err
	}
	v, err := lists.Make(m.h, []api.Word{symbol(api.SymQuote), symbol(n)})
	if err != api.OK {
		return api.Word{}, err
	}
	return m.call("apply", v, f)
}

// call creates a list of a symbol and two words.
func (m model) call(name string, a, b api.Word) (api.Word, api.Errno) {
	n, err := m.n.Intern(name)
	if err != api.OK {
		return api.Word{}, err
	}
	return lists.Make(m.h, []api.Word{symbol(n), a, b})
}

// scribbler creates random words, in which commas are frequent.
type scribbler struct {
	desk
	r *rand.Rand
}

// word creates a word with parts at most deep levels deep.
func (s scribbler) word(deep int) api.Word {
	n := s.r.Intn(12)
	switch {
	case deep == 0 || n < 4:
		return s.leaf()
	case n < 9:
		marker := []int{api.SymComma, api.SymComma, api.SymComma, api.SymSplice, api.SymSplice, api.SymBack}[s.r.Intn(6)]
		return s.list(symbol(marker), s.word(deep-1))
	case n < 10:
		return s.vector(s.words(deep - 1)...)
	}
	end := null
	if s.r.Intn(3) == 0 {
		end = s.word(deep - 1)
	}
	return s.dotted(end, s.words(deep-1)...)
}

// words creates a few words.
func (s scribbler) words(deep int) []api.Word {
	var l []api.Word
	for range s.r.Intn(4) {
		l = append(l, s.word(deep))
	}
	return l
}

// leaf returns a word without parts.
func (s scribbler) leaf() api.Word {
	return []api.Word{number(s.r.Intn(5)), null, truth, symbol(api.SymComma), symbol(api.SymSplice), symbol(api.SymBack), symbol(70), s.vector(), dead(api.KindCons)}[s.r.Intn(9)]
}

// P8.2: random words have the forms and the errors that the chapter defines, and the
// same objects and symbols are created in the same order.
func TestRandomForms(t *testing.T) {
	ends := map[api.Errno]int{}
	for seed := range 8000 {
		s := scribbler{newDesk(t, 400), rand.New(rand.NewSource(int64(seed)))}
		w := s.word(1 + seed%6)
		if s.r.Intn(3) == 0 {
			for free := s.r.Intn(12); s.h.Many() < s.h.Limit()-free; {
				s.cons(null, null)
			}
		}
		if s.r.Intn(50) == 0 {
			s.n = tableFor(s.r.Intn(3))
		}
		m := model{s.copied()}
		want, wanted := m.form(w, 1)
		got, err := forms.Backquote(s.h, s.n, w)
		ends[err]++
		if got != want || err != wanted {
			t.Errorf("seed %d: %v, %v, not %v, %v", seed, got, err, want, wanted)
		}
		if s.h.Many() != m.h.Many() || !kept(s.h, m.h) || !slices.Equal(s.symbols(0), m.symbols(0)) {
			t.Errorf("seed %d: other objects or symbols", seed)
		}
	}
	for _, err := range []api.Errno{api.OK, api.ErrForm, api.ErrFull} {
		if ends[err] < 200 {
			t.Errorf("%v only %d times", err, ends[err])
		}
	}
}
