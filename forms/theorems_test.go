package forms_test

import (
	"math/rand"
	"testing"

	"copyist/api"
	"copyist/forms"
	"copyist/lists"
)

// reckoner evaluates forms of backquoted words.
type reckoner struct {
	desk
	// values are the values of variables.
	values map[api.Word]api.Word
}

// value returns the value of a form.
func (r reckoner) value(form api.Word) api.Word {
	r.t.Helper()
	if v, ok := r.values[form]; ok {
		return v
	}
	if form.Kind != api.KindCons {
		return form
	}
	l := r.elements(form)
	name, _ := r.n.Name(l[0].N)
	switch {
	case name == "quote" && len(l) == 2:
		return l[1]
	case name == "cons" && len(l) == 3:
		return r.cons(r.value(l[1]), r.value(l[2]))
	case name == "append" && len(l) == 3:
		return r.created(lists.Append(r.h, r.value(l[1]), r.value(l[2])))
	case name == "apply" && len(l) == 3 && r.value(l[1]) == r.intern("vector"):
		return r.vector(r.elements(r.value(l[2]))...)
	}
	r.t.Fatalf("no form: %s", r.shown(form, api.OK))
	return null
}

// evaluates checks the value of the form of w.
func (r reckoner) evaluates(w, want api.Word) {
	r.t.Helper()
	form, err := forms.Backquote(r.h, r.n, w)
	if err != api.OK {
		r.t.Fatalf("%s: %v", r.shown(w, api.OK), err)
	}
	got := r.value(form)
	if same, err := lists.Equal(r.h, got, want); !same || err != api.OK {
		r.t.Errorf("%s: the value %s, not %s", r.shown(w, api.OK), r.shown(got, api.OK), r.shown(want, api.OK))
	}
}

// templater creates random backquoted words together with the values of their forms.
type templater struct {
	reckoner
	rand *rand.Rand
	// plain says that there are no commas.
	plain bool
}

// leaf returns a word that is its own value.
func (p templater) leaf() api.Word {
	return []api.Word{number(p.rand.Intn(9)), null, truth, p.text("a"), p.intern("x"), p.intern("cons"), symbol(api.SymQuote), p.code()}[p.rand.Intn(8)]
}

// variable returns a variable whose value is a list, and the value.
func (p templater) variable() (api.Word, api.Word) {
	w := p.intern([]string{"none", "one", "two"}[p.rand.Intn(3)])
	return w, p.values[w]
}

// prefixed returns a list of a symbol and a word, and one of the symbol and the value.
func (p templater) prefixed(s int, w, v api.Word) (api.Word, api.Word) {
	return p.list(symbol(s), w), p.list(symbol(s), v)
}

// template creates a word at a level, and its value.
func (p templater) template(level, deep int) (api.Word, api.Word) {
	n := p.rand.Intn(10)
	switch {
	case deep == 0 || n < 3:
		w := p.leaf()
		return w, w
	case n < 5 && !p.plain:
		return p.comma(level, deep)
	case n < 6:
		w, v := p.template(level+1, deep-1)
		return p.prefixed(api.SymBack, w, v)
	case n < 7:
		w, v := p.templates(level, deep-1)
		return p.vector(w...), p.vector(v...)
	}
	end, value := p.template(level, 0)
	if p.rand.Intn(3) == 0 && !p.plain {
		end, value = p.comma(level, deep)
	}
	w, v := p.templates(level, deep-1)
	return p.dotted(end, w...), p.dotted(value, v...)
}

// comma creates a comma before a variable or, at a higher level, before another word.
func (p templater) comma(level, deep int) (api.Word, api.Word) {
	if level == 1 {
		w, v := p.variable()
		return p.list(symbol(api.SymComma), w), v
	}
	w, v := p.template(level-1, deep-1)
	return p.prefixed([]int{api.SymComma, api.SymSplice}[p.rand.Intn(2)], w, v)
}

// templates creates elements; the value of a spliced variable is several of them.
func (p templater) templates(level, deep int) (words, values []api.Word) {
	for range p.rand.Intn(5) {
		if level == 1 && !p.plain && p.rand.Intn(4) == 0 {
			w, v := p.variable()
			words, values = append(words, p.list(symbol(api.SymSplice), w)), append(values, p.elements(v)...)
			continue
		}
		w, v := p.template(level, deep)
		words, values = append(words, w), append(values, v)
	}
	return words, values
}

func newTemplater(t *testing.T, seed int) templater {
	d := newDesk(t, 60000)
	values := map[api.Word]api.Word{d.intern("none"): null, d.intern("one"): d.read("(1)"), d.intern("two"): d.read("(a [b])")}
	return templater{reckoner: reckoner{d, values}, rand: rand.New(rand.NewSource(int64(seed)))}
}

// P8.4: the form of a word without commas evaluates to an equal word; it is the word
// itself.
func TestValuesWithoutCommas(t *testing.T) {
	for seed := range 2000 {
		p := newTemplater(t, seed)
		p.plain = true
		w, v := p.template(1, 1+seed%6)
		p.evaluates(w, v)
		p.evaluates(w, w)
		form, _ := forms.Backquote(p.h, p.n, w)
		if p.value(form) != w {
			t.Errorf("%s: another word", p.shown(w, api.OK))
		}
	}
}

// P8.2: the value of a form has the values of variables in the places of commas.
func TestValuesWithCommas(t *testing.T) {
	for seed := range 5000 {
		p := newTemplater(t, seed)
		p.evaluates(p.template(1, 1+seed%6))
	}
}
