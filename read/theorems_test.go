package read_test

import (
	"math/rand"
	"slices"
	"strings"
	"testing"

	"copyist/api"
	"copyist/read"
)

// P5.1: the order in which objects and symbols are created.
func TestOrder(t *testing.T) {
	for s, want := range map[string]string{
		"(b (a) \"c\" [1])":  "0: cons 1/63 1/0\n1: \"c\"\n2: vector 0/1\n3: cons 4/2 1/0\n4: cons 3/1 2/3\n5: cons 2/0 2/4\n6: cons 1/62 2/5\n62: <b>\n63: <a>\n",
		"(\"a\" . \"b\")":    "0: \"a\"\n1: \"b\"\n2: cons 3/0 3/1\n",
		"((1) . (2))":        "0: cons 0/1 1/0\n1: cons 0/2 1/0\n2: cons 2/0 2/1\n",
		"'a":                 "0: cons 1/62 1/0\n1: cons 1/2 2/0\n62: <a>\n",
		",@(a)":              "0: cons 1/62 1/0\n1: cons 2/0 1/0\n2: cons 1/6 2/1\n62: <a>\n",
		"[\"a\" [\"b\"] 'c]": "0: \"a\"\n1: \"b\"\n2: vector 3/1\n3: cons 1/62 1/0\n4: cons 1/2 2/3\n5: vector 3/0 4/2 2/4\n62: <c>\n",
		"() a #'b ##":        "0: cons 1/63 1/0\n1: cons 1/3 2/0\n62: <a>\n63: <b>\n64: <>\n",
	} {
		d := newDesk(t, 10)
		if _, f := read.All(d.h, d.t, s); f != (api.Fault{}) {
			t.Errorf("%q: %v", s, f)
		}
		if got := d.contents(); got != want {
			t.Errorf("%q: there is\n%snot\n%s", s, got, want)
		}
	}
}

// P5.1: an error does not take back what was created before it, and nothing is
// created behind it.
func TestRemains(t *testing.T) {
	for s, want := range map[string]string{
		"(a (b) \"c\" ] d": "0: cons 1/63 1/0\n1: \"c\"\n62: <a>\n63: <b>\n",
		"('a . 'b c)":      "0: cons 1/62 1/0\n1: cons 1/2 2/0\n2: cons 1/63 1/0\n3: cons 1/2 2/2\n62: <a>\n63: <b>\n",
		"[\"a\" ##":        "0: \"a\"\n62: <>\n",
		"(a 'b\\":          "62: <a>\n",
		"(a \"b\\q\" c)":   "62: <a>\n",
		"(a 'b . )":        "0: cons 1/63 1/0\n1: cons 1/2 2/0\n62: <a>\n63: <b>\n",
	} {
		d := newDesk(t, 10)
		if w, end, f := read.Read(d.h, d.t, s, 0); f.Err != api.ErrForm || w != (api.Word{}) || end != 0 {
			t.Errorf("%q: %v, %d, %v", s, w, end, f)
		}
		if got := d.contents(); got != want {
			t.Errorf("%q: there is\n%snot\n%s", s, got, want)
		}
	}
}

// P5.1: random forms in random spellings are read as what they spell, and created in
// the same order.
func TestAuthor(t *testing.T) {
	for seed := range 1000 {
		a := newAuthor(t, seed)
		want := a.parts(4)
		d := newDesk(t, 1000)
		l, f := read.All(d.h, d.t, a.b.String())
		if f != (api.Fault{}) || !slices.Equal(l, want) || d.contents() != a.contents() {
			t.Fatalf("seed %d: %q\nis %s, %v\nnot %s", seed, a.b.String(), d.spellAll(l), f, a.spellAll(want))
		}
	}
}

// inTurn reads the forms of s one after the other.
func inTurn(d desk, s string) (l []api.Word, ends []int, f api.Fault) {
	at := 0
	for {
		w, end, f := read.Read(d.h, d.t, s, at)
		if f.Err == api.ErrEnd {
			return l, ends, api.Fault{}
		}
		if f != (api.Fault{}) {
			return nil, ends, f
		}
		l, ends, at = append(l, w), append(ends, end), end
	}
}

// scribble returns a text without sense, of characters that have one.
func scribble(r *rand.Rand, n int) string {
	chars := []rune("()()[]'`,@#\"?\\\\;. \n\tCMS-x0419abne\u20ac")
	var b strings.Builder
	for range n {
		b.WriteRune(chars[r.Intn(len(chars))])
	}
	return b.String()
}

// P5.3: All returns what Read returns in turn, or the same error, and creates the
// same.
func TestAllInTurn(t *testing.T) {
	for seed := range 5000 {
		r := rand.New(rand.NewSource(int64(seed)))
		s := scribble(r, r.Intn(12))
		if seed%4 == 0 {
			a := newAuthor(t, seed)
			a.parts(3)
			a.gap()
			s = a.b.String() + scribble(r, r.Intn(5))
		}
		d, o := newDesk(t, 1000), newDesk(t, 1000)
		l, f := read.All(d.h, d.t, s)
		m, _, g := inTurn(o, s)
		if f != g || !slices.Equal(l, m) || d.contents() != o.contents() {
			t.Fatalf("seed %d: %q: All = %v, %v; in turn: %v, %v", seed, s, l, f, m, g)
		}
		if f.At < 0 || f.At > length(s) || f.Err != api.OK && len(l) > 0 {
			t.Fatalf("seed %d: %q: %v, %v", seed, s, l, f)
		}
	}
}

// P5.3: what follows a delimiter behind a form does not change it, and neither does
// what is before it.
func TestWhatFollows(t *testing.T) {
	for seed := range 3000 {
		r := rand.New(rand.NewSource(int64(seed)))
		s := scribble(r, r.Intn(12))
		d := newDesk(t, 1000)
		w, end, f := read.Read(d.h, d.t, s, 0)
		if f != (api.Fault{}) {
			continue
		}
		want, form := d.spell(w), string([]rune(s)[:end])
		for _, c := range []string{"", "(", ")", "[", "]", "\"", "'", "`", ",", ";", "\t", "\n", "\f", "\r", " "} {
			behind := c
			if c != "" {
				behind += scribble(r, r.Intn(6))
			}
			for _, before := range []string{"", " ;\u20ac\n"} {
				d := newDesk(t, 1000)
				w, n, f := read.Read(d.h, d.t, before+form+behind, length(before))
				if got := d.spell(w); f != (api.Fault{}) || got != want || n != end+length(before) {
					t.Fatalf("%q in %q: %s, %d, %v, not %s, %d", form, before+form+behind, got, n, f, want, end)
				}
			}
		}
	}
}

// P5.1: if the input is cut off within a form, that is the error, unless a token
// before the cut is a form as well, or none by itself.
func TestCutAnywhere(t *testing.T) {
	for seed := range 100 {
		a := newAuthor(t, seed)
		a.sequence(4)
		text := []rune(a.b.String())
		for n := range len(text) {
			s := string(text[:n])
			d := newDesk(t, 1000)
			want := fault(api.ErrForm, n)
			if n == 0 {
				want = fault(api.ErrEnd, 0)
			}
			if strings.HasSuffix(s, "#") || strings.HasSuffix(s, ".") {
				continue
			}
			if w, end, f := read.Read(d.h, d.t, s, 0); f != want || w != (api.Word{}) || end != 0 {
				t.Fatalf("seed %d: %q of %q: %v, %d, %v", seed, s, string(text), w, end, f)
			}
		}
	}
}

// P5.3: what a form is read as depends neither on what the heap and the table
// contain nor on the text that was read before.
func TestUsedDesk(t *testing.T) {
	d := newDesk(t, 10000)
	for seed := range 100 {
		a := newAuthor(t, seed)
		want := a.spellAll(a.parts(3))
		if d.h.Many() > 5000 {
			d.h.Collect(nil)
		}
		l, f := read.All(d.h, d.t, a.b.String())
		if got := d.spellAll(l); got != want || f != (api.Fault{}) {
			t.Fatalf("seed %d: %q is %s, %v, not %s", seed, a.b.String(), got, f, want)
		}
	}
}
