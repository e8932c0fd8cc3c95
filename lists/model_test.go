package lists_test

import (
	"maps"
	"math/rand"
	"slices"
	"testing"

	"copyist/api"
	"copyist/heap"
	"copyist/lists"
)

// model is the chapter again, on a copy of the heap that the program works on.
type model struct{ *heap.Heap }

func (m model) isCons(w api.Word) bool { return w.Kind == api.KindCons && m.Live(w) }

// spine returns the conses of a word, and why it is no proper list.
func (m model) spine(w api.Word) ([]api.Word, api.Errno) {
	var l []api.Word
	for m.isCons(w) {
		if slices.Contains(l, w) {
			return l, api.ErrLoop
		}
		l = append(l, w)
		w, _ = m.Cdr(w)
	}
	if w != null {
		return l, api.ErrType
	}
	return l, api.OK
}

// cars returns the cars of conses.
func (m model) cars(l []api.Word) []api.Word {
	cars := make([]api.Word, len(l))
	for i, c := range l {
		cars[i], _ = m.Car(c)
	}
	return cars
}

// task is a comparison that is to be made.
type task struct {
	a, b        api.Word
	depth, cdrs int
}

// equal does the comparisons one by one; made says how many there have been.
func (m model) equal(x, y api.Word, made *int) (bool, api.Errno) {
	tasks := []task{{a: x, b: y}}
	for len(tasks) > 0 {
		c := tasks[len(tasks)-1]
		tasks = tasks[:len(tasks)-1]
		if c.depth > 200 {
			return false, api.ErrDepth
		}
		if *made >= 200000 {
			return false, api.ErrFuel
		}
		if c.cdrs > 65536 {
			return false, api.ErrLoop
		}
		*made++
		if c.a == c.b {
			continue
		}
		more, ok := m.parts(c)
		if !ok {
			return false, api.OK
		}
		slices.Reverse(more)
		tasks = append(tasks, more...)
	}
	return true, api.OK
}

// parts returns the comparisons that decide whether two different words are equal, or
// false if they are not.
func (m model) parts(c task) ([]task, bool) {
	if c.a.Kind != c.b.Kind || !m.Live(c.a) || !m.Live(c.b) {
		return nil, false
	}
	switch c.a.Kind {
	case api.KindText:
		s, _ := m.TextOf(c.a)
		t, _ := m.TextOf(c.b)
		return nil, s == t
	case api.KindCons:
		cars := m.cars([]api.Word{c.a, c.b})
		a, _ := m.Cdr(c.a)
		b, _ := m.Cdr(c.b)
		return []task{{cars[0], cars[1], c.depth + 1, 0}, {a, b, c.depth, c.cdrs + 1}}, true
	case api.KindVec:
		l, _ := m.VecOf(c.a)
		k, _ := m.VecOf(c.b)
		if len(l) != len(k) {
			return nil, false
		}
		var more []task
		for i := range l {
			more = append(more, task{l[i], k[i], c.depth + 1, 0})
		}
		return more, true
	}
	return nil, false
}

// create creates a list unless the heap is too full.
func (m model) create(l []api.Word, end api.Word) (api.Word, api.Errno) {
	if m.Many()+len(l) > m.Limit() {
		return api.Word{}, api.ErrFull
	}
	for i := range l {
		end, _ = m.Cons(l[len(l)-1-i], end)
	}
	return end, api.OK
}

// hash returns the hash of a word and the number of words that were visited for it, of
// which there may be left.
func (m model) hash(w api.Word, inside, left int) (int, int) {
	if inside > 10 || left < 1 {
		return 1, 1
	}
	start, parts := 0, []api.Word(nil)
	switch {
	case m.isCons(w):
		start = 1
		for c := w; m.isCons(c) && len(parts) < 100; c, _ = m.Cdr(c) {
			parts = append(parts, m.cars([]api.Word{c})...)
		}
	case w.Kind == api.KindVec && m.Live(w):
		start = 2
		parts, _ = m.VecOf(w)
	case w.Kind == api.KindText && m.Live(w):
		s, _ := m.TextOf(w)
		start = 3
		for _, c := range []rune(s) {
			parts = append(parts, number(int(c)))
		}
		inside = -100
	default:
		return ((31*w.Kind+w.N)%prime + prime) % prime, 1
	}
	visited := 1
	for _, x := range parts {
		n, more := m.hash(x, inside+1, left-visited)
		start = (start*31 + n) % prime
		visited += more
	}
	if w.Kind == api.KindText {
		visited = 1
	}
	return start, visited
}

// player does the same with the program and with its model.
type player struct {
	t *testing.T
	r *rand.Rand
	h *heap.Heap
}

// word returns any word, mostly one of an object.
func (p *player) word() api.Word {
	switch p.r.Intn(12) {
	case 0:
		return api.Word{Kind: p.r.Intn(13) - 1, N: p.r.Intn(p.h.Limit()+4) - 2}
	case 1, 2:
		return number(p.r.Intn(3))
	case 3:
		return symbol(p.r.Intn(3))
	}
	return p.object()
}

// object returns the word of an object, or nil.
func (p *player) object() api.Word {
	n := p.r.Intn(p.h.Limit())
	for _, kind := range []int{api.KindCons, api.KindText, api.KindVec} {
		if w := (api.Word{Kind: kind, N: n}); p.h.Live(w) {
			return w
		}
	}
	return null
}

func (p *player) words(n int) []api.Word {
	l := make([]api.Word, p.r.Intn(n))
	for i := range l {
		l[i] = p.word()
	}
	return l
}

// grow creates an object, and sometimes changes one.
func (p *player) grow() {
	switch p.r.Intn(9) {
	case 0:
		p.h.Text([]string{"", "a", "b", "ab"}[p.r.Intn(4)])
	case 1:
		p.h.Vec(p.words(4))
	case 2:
		p.h.SetCdr(p.object(), p.object())
	case 3:
		p.h.SetCar(p.object(), p.word())
	case 4:
		p.h.Cons(number(p.r.Intn(3)), null)
	default:
		p.h.Cons(p.word(), p.object())
	}
}

// outcome is what a call returns.
type outcome struct {
	word  api.Word
	words []api.Word
	yes   bool
	err   api.Errno
}

// step does something with a heap: the program, or its model.
type step struct {
	name           string
	program, model func(h *heap.Heap) outcome
}

func plain(w api.Word, err api.Errno) outcome { return outcome{word: w, err: err} }

// whole returns a step of the model that needs a proper list.
func whole(w api.Word, f func(m model, conses, cars []api.Word) outcome) func(*heap.Heap) outcome {
	return func(h *heap.Heap) outcome {
		m := model{h}
		l, err := m.spine(w)
		if err != api.OK {
			return outcome{err: err}
		}
		return f(m, l, m.cars(l))
	}
}

// basic returns the steps of the functions without comparisons.
func basic(w, x, y api.Word, n int) []step {
	turn := func(l []api.Word) []api.Word { slices.Reverse(l); return l }
	tail := func(h *heap.Heap) (api.Word, api.Errno) {
		rest := w
		for range n {
			var err api.Errno
			if rest, err = h.Cdr(rest); err != api.OK {
				return rest, err
			}
		}
		return rest, api.OK
	}
	return []step{
		{"Slice", func(h *heap.Heap) outcome { l, err := lists.Slice(h, w); return outcome{words: l, err: err} }, whole(w, func(m model, _, l []api.Word) outcome { return outcome{words: l} })},
		{"Length", func(h *heap.Heap) outcome { n, err := lists.Length(h, w); return plain(number(n), err) }, whole(w, func(m model, _, l []api.Word) outcome { return outcome{word: number(len(l))} })},
		{"Append", func(h *heap.Heap) outcome { return plain(lists.Append(h, w, x)) }, whole(w, func(m model, _, l []api.Word) outcome { return plain(m.create(l, x)) })},
		{"Copy", func(h *heap.Heap) outcome { return plain(lists.Copy(h, w)) }, whole(w, func(m model, _, l []api.Word) outcome { return plain(m.create(l, null)) })},
		{"Reverse", func(h *heap.Heap) outcome { return plain(lists.Reverse(h, w)) }, whole(w, func(m model, _, l []api.Word) outcome { return plain(m.create(turn(l), null)) })},
		{"Tail", func(h *heap.Heap) outcome { return plain(lists.Tail(h, w, n)) }, func(h *heap.Heap) outcome { return plain(tail(h)) }},
		{"Nth", func(h *heap.Heap) outcome { return plain(lists.Nth(h, w, n)) }, func(h *heap.Heap) outcome {
			rest, err := tail(h)
			if err != api.OK {
				return outcome{err: err}
			}
			return plain(h.Car(rest))
		}},
		{"Get", func(h *heap.Heap) outcome { v, is := lists.Get(h, w, x); return outcome{word: v, yes: is} }, func(h *heap.Heap) outcome {
			l, err := model{h}.spine(w)
			if err == api.ErrLoop {
				// Three times round is once at least with each of its conses as a first one.
				round := l[slices.Index(l, first(h.Cdr(l[len(l)-1]))):]
				l = slices.Concat(l, round, round)
			}
			cars := model{h}.cars(l)
			for i := 0; i+1 < len(cars); i += 2 {
				if cars[i] == x {
					return outcome{word: cars[i+1], yes: true}
				}
			}
			return outcome{}
		}},
		{"Put", func(h *heap.Heap) outcome { return plain(lists.Put(h, w, x, y)) }, whole(w, func(m model, _, l []api.Word) outcome {
			for i := range l {
				if i%2 == 0 && i < len(l)-1 && l[i] == x {
					return plain(m.create(slices.Concat(l[:i+1], []api.Word{y}, l[i+2:]), null))
				}
			}
			return plain(m.create(append(l, x, y), null))
		})},
		{"Hash", func(h *heap.Heap) outcome { n, err := lists.Hash(h, w); return plain(number(n), err) }, func(h *heap.Heap) outcome {
			n, _ := model{h}.hash(w, 0, 1000)
			return outcome{word: number(n)}
		}},
		{"Sorted", func(h *heap.Heap) outcome { return plain(lists.Sorted(h, w)) }, whole(w, func(m model, _, l []api.Word) outcome { return m.sorted(l) })},
		{"Less", func(h *heap.Heap) outcome { yes, err := lists.Less(h, x, y); return outcome{yes: yes, err: err} }, func(h *heap.Heap) outcome {
			yes, ok := model{h}.less(x, y)
			if !ok {
				return outcome{err: api.ErrType}
			}
			return outcome{yes: yes}
		}},
	}
}

// first returns w, which no error came with.
func first(w api.Word, _ api.Errno) api.Word { return w }

// less reports whether a is before b, and whether they have an order.
func (m model) less(a, b api.Word) (bool, bool) {
	s, err := m.TextOf(a)
	t, err2 := m.TextOf(b)
	if a.Kind == api.KindInt && b.Kind == api.KindInt {
		return a.N < b.N, true
	}
	return slices.Compare([]rune(s), []rune(t)) < 0, err == api.OK && err2 == api.OK
}

// sorted inserts the elements one by one.
func (m model) sorted(l []api.Word) outcome {
	var done []api.Word
	for _, x := range l {
		if _, ok := m.less(x, l[0]); !ok {
			return outcome{err: api.ErrType}
		}
		at := 0
		for i, y := range done {
			if before, _ := m.less(x, y); !before {
				at = i + 1
			}
		}
		done = slices.Insert(done, at, x)
	}
	return plain(m.create(done, null))
}

// comparing returns the steps of the functions that look for x, and of Equal.
func comparing(w, x api.Word) []step {
	l := []step{{"Equal", func(h *heap.Heap) outcome { yes, err := lists.Equal(h, w, x); return outcome{yes: yes, err: err} }, func(h *heap.Heap) outcome {
		made := 0
		yes, err := model{h}.equal(w, x, &made)
		return outcome{yes: yes, err: err}
	}}}
	for name, f := range looking() {
		l = append(l, step{name, func(h *heap.Heap) outcome { return plain(f(h, x, w)) }, func(h *heap.Heap) outcome {
			return model{h}.find(w, x, name[len(name)-1] == 'q', name[0] == 'A')
		}})
	}
	for name, f := range map[string]two{"Delq": lists.Delq, "Delete": lists.Delete, "Remove": lists.Remove} {
		l = append(l, step{name, func(h *heap.Heap) outcome { return plain(f(h, x, w)) }, whole(w, func(m model, conses, cars []api.Word) outcome {
			return m.without(conses, cars, x, name)
		})})
	}
	return l
}

// find looks for x, or a word equal to it, in a list or in the cars of its elements.
func (m model) find(w, x api.Word, same, entries bool) outcome {
	conses, end := m.spine(w)
	made := 0
	for i, y := range m.cars(conses) {
		found := conses[i]
		if entries {
			if !m.isCons(y) {
				continue
			}
			found, y = y, m.cars([]api.Word{y})[0]
		}
		yes, err := x == y, api.OK
		if !same {
			yes, err = m.equal(x, y, &made)
		}
		if yes || err != api.OK {
			return outcome{word: map[bool]api.Word{true: found}[yes], err: err}
		}
	}
	if end == api.OK {
		return outcome{word: null}
	}
	return outcome{err: end}
}

// without removes x from a list, or what is equal to it.
func (m model) without(conses, cars []api.Word, x api.Word, name string) outcome {
	var left, elements []api.Word
	made := 0
	for i, y := range cars {
		yes, err := x == y, api.OK
		if name != "Delq" {
			yes, err = m.equal(x, y, &made)
		}
		if err != api.OK {
			return outcome{err: err}
		}
		if !yes {
			left, elements = append(left, conses[i]), append(elements, y)
		}
	}
	if name == "Remove" {
		return plain(m.create(elements, null))
	}
	left = append(left, null)
	for i, c := range left[:len(left)-1] {
		m.SetCdr(c, left[i+1])
	}
	return outcome{word: left[0]}
}

// P7.1 to P7.6: the functions and the model return the same for random words, and leave
// the same objects behind.
func TestModel(t *testing.T) {
	for seed := range 600 {
		r := rand.New(rand.NewSource(int64(seed)))
		p := &player{t, r, newDesk(t, 3+r.Intn(25)).h}
		for range p.h.Limit() * 3 / 2 {
			p.grow()
		}
		for range 3 {
			w, x, y := p.object(), p.word(), p.word()
			for _, s := range append(basic(w, x, y, r.Intn(6)), comparing(w, x)...) {
				a, b := p.h.Copy(), p.h.Copy()
				got, want := s.program(a), s.model(b)
				if got.word != want.word || got.yes != want.yes || got.err != want.err || !slices.Equal(got.words, want.words) {
					t.Fatalf("seed %d: %s of %v, %v and %v is %v, not %v", seed, s.name, w, x, y, got, want)
				}
				if !maps.EqualFunc(objects(a), objects(b), slices.Equal) {
					t.Fatalf("seed %d: after %s of %v, %v and %v: %v, not %v", seed, s.name, w, x, y, objects(a), objects(b))
				}
			}
		}
	}
}
