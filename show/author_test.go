package show_test

import (
	"math/rand"
	"regexp"
	"strconv"
	"strings"
	"testing"

	"copyist/api"
)

// step is a piece of a text: an atom, a separator, or a bracket or prefix that is
// opened or shut; or the reason why there is none.
type step struct {
	text         string
	opens, shuts bool
	err          api.Errno
}

// author creates random words, and knows the steps of their texts from the chapter.
type author struct {
	desk
	r *rand.Rand
	// escape says which of the two texts the steps are those of.
	escape bool
	// broken says that there may be words that have no text.
	broken bool
	// strange says that there may be objects that the reader does not read.
	strange bool
}

func newAuthor(t *testing.T, seed int) *author {
	return &author{desk: newDesk(t, 1000), r: rand.New(rand.NewSource(int64(seed)))}
}

// chance is true once in n times.
func (a *author) chance(n int) bool { return a.r.Intn(n) == 0 }

// name returns a random name.
func (a *author) name() string {
	chars := []rune("ab10+-.?#@ ()[]'`,;\"\\\n\u20ac:")
	var b strings.Builder
	for !a.chance(3) {
		b.WriteRune(chars[a.r.Intn(len(chars))])
	}
	return b.String()
}

// atom returns the steps of an atom.
func (a *author) atom(plain, escaped string) []step {
	if a.escape {
		return []step{{text: escaped}}
	}
	return []step{{text: plain}}
}

// bad returns a word without a text.
func (a *author) bad() (api.Word, []step) {
	switch a.r.Intn(3) {
	case 0:
		return dead(), []step{{err: api.ErrType}}
	case 1:
		return api.Word{Kind: 11 + a.r.Intn(3)}, []step{{err: api.ErrType}}
	}
	return strange(), []step{{err: api.ErrUnknown}}
}

// other returns a word of a kind that the reader does not read.
func (a *author) other() (api.Word, []step) {
	n := a.r.Intn(20) - 5
	s := strconv.Itoa(n)
	switch a.r.Intn(5) {
	case 0:
		return api.Word{Kind: api.KindPrim, N: api.SymSplice}, []step{{text: "#<subr ,@>"}}
	case 1:
		return api.Word{Kind: api.KindMarker, N: n}, []step{{text: "#<marker " + s + ">"}}
	case 2:
		w := a.created(a.h.Code(api.Code{}))
		return w, []step{{text: "#<code " + strconv.Itoa(w.N) + ">"}}
	case 3:
		s = a.name()
		return a.fresh(s), a.atom("#:"+s, "#:"+strings.TrimPrefix(spelled(s), "##"))
	}
	return api.Word{Kind: api.KindInt, N: least}, []step{{text: strconv.Itoa(least)}}
}

// spelled returns the escaped text of an interned symbol.
func spelled(name string) string {
	if name == "" {
		return "##"
	}
	s := regexp.MustCompile("[][\t\n\f\r ()\"'`,;\\\\]").ReplaceAllString(name, `\$0`)
	if regexp.MustCompile(`(?s)^([+-]?[0-9]+|\.|[?#@].*)$`).MatchString(name) {
		return `\` + s
	}
	return s
}

// form creates a word with parts at most deep levels deep, and returns its steps.
func (a *author) form(deep int) (api.Word, []step) {
	n := a.r.Intn(9)
	switch {
	case a.broken && a.chance(20):
		return a.bad()
	case a.strange && a.chance(5):
		return a.other()
	case deep == 0 || n < 4:
		return a.leaf()
	case n < 5:
		return a.array(deep - 1)
	case n < 7:
		return a.quoted(deep - 1)
	}
	return a.sequence(deep - 1)
}

// leaf creates an integer, a string or an interned symbol.
func (a *author) leaf() (api.Word, []step) {
	s := a.name()
	switch a.r.Intn(4) {
	case 0:
		n := a.r.Intn(200) - 100
		if a.chance(3) {
			n *= api.MaxInt / 100
		}
		return number(n), []step{{text: strconv.Itoa(n)}}
	case 1:
		return a.text(s), a.atom(s, `"`+strings.ReplaceAll(strings.ReplaceAll(s, `\`, `\\`), `"`, `\"`)+`"`)
	case 2:
		n := a.r.Intn(api.FixedSyms)
		s, _ = a.n.Name(n)
		return symbol(n), a.atom(s, spelled(s))
	}
	return a.intern(s), a.atom(s, spelled(s))
}

// parts creates words, and returns their steps with separators between them.
func (a *author) parts(deep int) (l []api.Word, steps []step) {
	for a.chance(5) || !a.chance(3) {
		w, more := a.form(deep)
		if len(l) > 0 {
			steps = append(steps, step{text: " "})
		}
		l, steps = append(l, w), append(steps, more...)
	}
	return l, steps
}

// around returns steps between two others.
func around(front string, steps []step, rear string) []step {
	return append(append([]step{{text: front, opens: true}}, steps...), step{text: rear, shuts: true})
}

func (a *author) array(deep int) (api.Word, []step) {
	l, steps := a.parts(deep)
	return a.vector(l...), around("[", steps, "]")
}

func (a *author) quoted(deep int) (api.Word, []step) {
	w, steps := a.form(deep)
	n := []int{api.SymQuote, api.SymBack, api.SymComma, api.SymSplice, api.SymFunction}[a.r.Intn(5)]
	return a.list(symbol(n), w), around(prefixes()[n], steps, "")
}

// sequence creates a list that has no prefix.
func (a *author) sequence(deep int) (api.Word, []step) {
	w, steps := a.form(deep)
	if _, ok := prefixes()[w.N]; ok && w.Kind == api.KindSym {
		w, steps = null, []step{{text: "nil"}}
	}
	l, more := a.parts(deep)
	l = append([]api.Word{w}, l...)
	if len(l) > 1 {
		steps = append(append(steps, step{text: " "}), more...)
	}
	if !a.chance(3) {
		return a.list(l...), around("(", steps, ")")
	}
	// A list at the end would continue the list.
	w, more = a.leaf()
	if w == null {
		return a.list(l...), around("(", steps, ")")
	}
	steps = append(append(steps, step{text: " . "}), more...)
	return a.dotted(w, l...), around("(", steps, ")")
}

// copyOut returns the text that steps yield, or the first error.
func copyOut(steps []step) (string, api.Errno) {
	s, opened := "", 0
	for _, x := range steps {
		switch {
		case x.err != api.OK:
			return "", x.err
		case x.opens && opened == api.MaxNest:
			return "", api.ErrDepth
		case x.opens:
			opened++
		case x.shuts:
			opened--
		}
		s += x.text
		if len([]rune(s)) > api.MaxChars {
			return "", api.ErrLong
		}
	}
	return s, api.OK
}
