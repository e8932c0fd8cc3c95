package lists_test

import (
	"cmp"
	"math/rand"
	"slices"
	"strings"
	"testing"

	"copyist/api"
	"copyist/lists"
)

// author creates random words in pairs that are equal, but for a word that may be
// replaced by another one.
type author struct {
	desk
	r *rand.Rand
}

// twins returns two equal words with parts at most deep levels deep.
func (a *author) twins(deep int) (api.Word, api.Word) {
	n := a.r.Intn(8)
	if deep == 0 {
		n = a.r.Intn(5)
	}
	switch n {
	case 0:
		s := strings.Repeat("a\u20ac", a.r.Intn(3))
		return a.text(s), a.text(s)
	case 1:
		return null, null
	case 2:
		w := a.cons(null, number(a.r.Intn(9)))
		return w, w
	case 3, 4:
		w := api.Word{Kind: a.r.Intn(14) - 2, N: a.r.Intn(2000) + 1000}
		return w, w
	case 5:
		x, y := a.parts(deep-1, a.r.Intn(5))
		return a.vector(x...), a.vector(y...)
	}
	x, y := a.parts(deep-1, 1+a.r.Intn(6))
	end, end2 := a.twins(0)
	return a.list(end, x...), a.list(end2, y...)
}

// parts returns the parts of words that are equal.
func (a *author) parts(deep, n int) (x, y []api.Word) {
	for range n {
		w, v := a.twins(deep)
		x, y = append(x, w), append(y, v)
	}
	return x, y
}

// P7.7: equal words have the same hash.
func TestEqualWordsHaveTheSameHash(t *testing.T) {
	for seed := range 1000 {
		a := &author{newDesk(t, 20000), rand.New(rand.NewSource(int64(seed)))}
		x, y := a.twins(1 + seed%6)
		a.equals(x, y, true, api.OK)
		n, err := lists.Hash(a.h, x)
		if m, err2 := lists.Hash(a.h, y); n != m || n < 0 || n >= prime || err != api.OK || err2 != api.OK {
			t.Errorf("seed %d: the hashes %d and %d, %v and %v", seed, n, m, err, err2)
		}
	}
}

// P7.7: equal words in a heap of random words have the same hash, and Equal is
// symmetric.
func TestHashAgreesWithEqual(t *testing.T) {
	for seed := range 150 {
		p := &player{t, rand.New(rand.NewSource(int64(seed))), newDesk(t, 20).h}
		for range 25 {
			p.grow()
		}
		for range 60 {
			x, y := p.word(), p.word()
			same, err := lists.Equal(p.h, x, y)
			back, err2 := lists.Equal(p.h, y, x)
			n, _ := lists.Hash(p.h, x)
			m, _ := lists.Hash(p.h, y)
			if same != back || err != err2 || same && n != m || lists.Eql(x, y) && !same {
				t.Errorf("seed %d: %v and %v: %t, %v; %t, %v; %d, %d", seed, x, y, same, err, back, err2, n, m)
			}
		}
	}
}

// P7.7: Slice returns the words given to Make.
func TestSliceOfMake(t *testing.T) {
	for seed := range 200 {
		r := rand.New(rand.NewSource(int64(seed)))
		d := newDesk(t, 300)
		l := make([]api.Word, r.Intn(300))
		for i := range l {
			l[i] = api.Word{Kind: r.Intn(15) - 2, N: r.Intn(400) - 50}
		}
		w, err := lists.Make(d.h, l)
		if got, err2 := lists.Slice(d.h, w); err != api.OK || err2 != api.OK || !slices.Equal(got, l) {
			t.Errorf("seed %d: %v, %v", seed, err, err2)
		}
	}
}

// P7.7: sorting keeps every element, and none is less than the one before it.
func TestSortingKeepsElements(t *testing.T) {
	for seed := range 300 {
		r := rand.New(rand.NewSource(int64(seed)))
		d := newDesk(t, 600)
		l := make([]api.Word, r.Intn(100))
		for i := range l {
			l[i] = number(r.Intn(50) - 25)
			if seed%2 == 1 {
				l[i] = d.text(strings.Repeat("b", r.Intn(3)) + strings.Repeat("a", r.Intn(3)))
			}
		}
		w, err := lists.Sorted(d.h, d.list(null, l...))
		got, err2 := lists.Slice(d.h, w)
		if err != api.OK || err2 != api.OK {
			t.Fatalf("seed %d: %v, %v", seed, err, err2)
		}
		for i := 1; i < len(got); i++ {
			if less, err := lists.Less(d.h, got[i], got[i-1]); less || err != api.OK {
				t.Errorf("seed %d: element %d: %t, %v", seed, i, less, err)
			}
		}
		byNumber := func(a, b api.Word) int { return cmp.Compare(a.N, b.N) }
		slices.SortFunc(l, byNumber)
		slices.SortFunc(got, byNumber)
		if !slices.Equal(got, l) {
			t.Errorf("seed %d: other elements", seed)
		}
	}
}
