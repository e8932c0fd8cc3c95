package heap_test

import (
	"math/rand"
	"slices"
	"strings"
	"testing"

	"copyist/api"
	"copyist/heap"
)

// model is what a heap should be: the object of each number, of which some are free.
type model struct {
	things []thing
	taken  []bool
}

func (m *model) live(w api.Word) bool {
	return slices.Contains(stored(), w.Kind) && w.N >= 0 && w.N < len(m.taken) && m.taken[w.N] && m.things[w.N].word == w
}

// add stores x under the smallest free number, if there is one.
func (m *model) add(kind int, x thing) (api.Word, api.Errno) {
	n := slices.Index(m.taken, false)
	if n < 0 {
		return api.Word{}, api.ErrFull
	}
	x.word = api.Word{Kind: kind, N: n}
	m.things[n], m.taken[n] = x, true
	return x.word, api.OK
}

// collect keeps what is in the least set that contains the roots and the contents
// of its elements.
func (m *model) collect(roots []api.Word) int {
	reached := make([]bool, len(m.taken))
	for grown := true; grown; {
		grown = false
		words := slices.Clone(roots)
		for n, x := range m.things {
			if reached[n] {
				words = append(append(append(words, x.car, x.cdr), x.elements...), x.code.Consts...)
			}
		}
		for _, w := range words {
			if m.live(w) && !reached[w.N] {
				reached[w.N], grown = true, true
			}
		}
	}
	removed := 0
	for n := range m.taken {
		if m.taken[n] && !reached[n] {
			m.taken[n], m.things[n] = false, thing{}
			removed++
		}
	}
	return removed
}

func (m *model) state() state {
	s := state{limit: len(m.taken), room: api.MaxStore}
	for n, x := range m.things {
		if m.taken[n] {
			s.many++
			s.room -= len([]rune(x.text)) + len(x.elements) + len(x.code.Bytes) + len(x.code.Consts)
			s.things = append(s.things, x)
		}
	}
	return s
}

// player does the same to a heap and to its model.
type player struct {
	t *testing.T
	r *rand.Rand
	h *heap.Heap
	m *model
}

// word returns any word, mostly one with the number of an object.
func (p *player) word() api.Word {
	if n := p.r.Intn(len(p.m.taken)); p.r.Intn(4) > 0 && p.m.taken[n] {
		return p.m.things[n].word
	}
	return api.Word{Kind: p.r.Intn(13) - 1, N: p.r.Intn(len(p.m.taken)+4) - 2}
}

func (p *player) words(n int) []api.Word {
	l := make([]api.Word, p.r.Intn(n))
	for i := range l {
		l[i] = p.word()
	}
	return l
}

// create makes an object of any kind.
func (p *player) create() {
	var got, want api.Word
	var e, wanted api.Errno
	switch p.r.Intn(5) {
	case 0, 1:
		a, d := p.word(), p.word()
		got, e = p.h.Cons(a, d)
		want, wanted = p.m.add(api.KindCons, thing{car: a, cdr: d})
	case 2:
		s := strings.Repeat("x\u00e4", p.r.Intn(4))
		got, e = p.h.Text(s)
		want, wanted = p.m.add(api.KindText, thing{text: s})
	case 3:
		l := p.words(5)
		got, e = p.h.Vec(l)
		want, wanted = p.m.add(api.KindVec, thing{elements: l})
	case 4:
		c := api.Code{Least: p.r.Intn(3), Most: p.r.Intn(3) - 1, Depth: p.r.Intn(3), Bytes: []byte{byte(p.r.Intn(256))}, Consts: p.words(4)}
		got, e = p.h.Code(c)
		want, wanted = p.m.add(api.KindCode, thing{code: c})
	}
	if got != want || e != wanted {
		p.t.Fatalf("a new object is %v, %v, not %v, %v", got, e, want, wanted)
	}
}

// set changes a part of an object, or tries to.
func (p *player) set() {
	w, x, i := p.word(), p.word(), p.r.Intn(6)-1
	car, cdr, at := p.h.SetCar(w, x), p.h.SetCdr(w, w), p.h.SetAt(w, i, x)
	wanted, found := api.ErrType, api.ErrType
	if p.m.live(w) && w.Kind == api.KindCons {
		p.m.things[w.N].car, p.m.things[w.N].cdr, wanted = x, w, api.OK
	}
	if p.m.live(w) && w.Kind == api.KindVec {
		found = api.ErrRange
		if l := p.m.things[w.N].elements; i >= 0 && i < len(l) {
			l = slices.Clone(l)
			l[i] = x
			p.m.things[w.N].elements, found = l, api.OK
		}
	}
	if car != wanted || cdr != wanted || at != found {
		p.t.Fatalf("SetCar(%v): %v, SetCdr: %v, not %v; SetAt %d: %v, not %v", w, car, cdr, wanted, i, at, found)
	}
}

// collect removes what few roots do not reach.
func (p *player) collect() {
	roots := p.words(4)
	if got, want := p.h.Collect(roots), p.m.collect(roots); got != want {
		p.t.Fatalf("Collect(%v) = %d, not %d", roots, got, want)
	}
}

// P2.4, and with it P2.1 to P2.3: a heap behaves like its model, whatever is done
// to it, and so does a copy that goes on in its place.
func TestModel(t *testing.T) {
	for seed := range 200 {
		r := rand.New(rand.NewSource(int64(seed)))
		limit := 1 + r.Intn(12)
		p := &player{t, r, empty(t, limit), &model{make([]thing, limit), make([]bool, limit)}}
		for range 200 {
			switch r.Intn(12) {
			case 0:
				p.collect()
			case 1, 2, 3, 4:
				p.set()
			case 5:
				p.h = p.h.Copy()
			default:
				p.create()
			}
			if got, want := watch(t, p.h), p.m.state(); !got.same(want) {
				t.Fatalf("seed %d: the heap is %v, not %v", seed, got, want)
			}
		}
	}
}
