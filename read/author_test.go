package read_test

import (
	"math/rand"
	"strconv"
	"strings"
	"testing"

	"copyist/api"
)

// author writes forms in one of their many spellings, and creates them on a desk of
// its own in the order of the chapter.
type author struct {
	desk
	t *testing.T
	r *rand.Rand
	b strings.Builder
	// bare says that a token or a character literal was written last, which a
	// delimiter must follow.
	bare bool
}

func newAuthor(t *testing.T, seed int) *author {
	return &author{desk: newDesk(t, 1000), t: t, r: rand.New(rand.NewSource(int64(seed)))}
}

// chance is true once in n times.
func (a *author) chance(n int) bool { return a.r.Intn(n) == 0 }

// pick returns one of the texts.
func (a *author) pick(texts ...string) string { return texts[a.r.Intn(len(texts))] }

// write writes a text that is no token.
func (a *author) write(s string) {
	a.b.WriteString(s)
	a.bare = false
}

// gap writes blanks and comments, or nothing where nothing is necessary.
func (a *author) gap() {
	for a.bare || a.chance(3) {
		a.write(a.pick(" ", "  ", "\n", "\t", "\f", "\r", ";\n", ";a ) \" \u20ac\\\n", " ;; ?\n"))
	}
}

// create returns the word of a new object.
func (a *author) create(w api.Word, err api.Errno) api.Word { return does(a.t)(w, err) }

// word returns the word of the symbol with the name s.
func (a *author) word(s string) api.Word {
	n, err := a.desk.t.Intern(s)
	if err != api.OK {
		a.t.Fatalf("Intern(%q): %v", s, err)
	}
	return api.Word{Kind: api.KindSym, N: n}
}

// form writes a form with parts at most deep levels deep.
func (a *author) form(deep int) api.Word {
	n := a.r.Intn(9)
	if deep == 0 {
		n %= 4
	}
	switch n {
	case 0:
		return a.integer()
	case 1:
		return a.character()
	case 2:
		return a.text()
	case 3:
		return a.symbol()
	case 4:
		return a.vector(deep - 1)
	case 5, 6:
		return a.prefixed(deep - 1)
	}
	return a.sequence(deep - 1)
}

// atom writes a token, which must not follow another one.
func (a *author) atom(s string) {
	if a.bare {
		a.write(" ")
	}
	a.write(s)
	a.bare = true
}

func (a *author) integer() api.Word {
	n := a.r.Intn(1000)
	if a.chance(3) {
		n = api.MaxInt - n
	}
	digits := strings.Repeat("0", a.r.Intn(3)) + strconv.Itoa(n)
	switch a.r.Intn(3) {
	case 0:
		a.atom("-" + digits)
		return number(-n)
	case 1:
		digits = "+" + digits
	}
	a.atom(digits)
	return number(n)
}

func (a *author) character() api.Word {
	// Without and with C.
	values := map[string][2]int{
		"a": {97, 1}, "Z": {90, 26}, "@": {64, 0}, "?": {63, 127}, "\\?": {63, 127}, "(": {40, 1<<26 + 40}, "\\)": {41, 1<<26 + 41}, ";": {59, 1<<26 + 59},
		" ": {32, 1<<26 + 32}, "\\s": {32, 1<<26 + 32}, "\\n": {10, 1<<26 + 10}, "\\d": {127, 1<<26 + 127}, "\\\\": {92, 28}, "\u20ac": {0x20ac, 1<<26 + 0x20ac},
	}
	c := a.pick("a", "Z", "@", "?", "\\?", "(", "\\)", ";", " ", "\\s", "\\n", "\\d", "\\\\", "\u20ac")
	s, bits := "?", map[string]int{}
	for a.chance(2) {
		m := a.pick("\\C-", "\\M-", "\\S-")
		s += m
		bits[m] = 1
	}
	a.atom(s + c)
	return number(values[c][bits["\\C-"]] + bits["\\M-"]<<27 + bits["\\S-"]<<25)
}

func (a *author) text() api.Word {
	values := map[string]string{
		"a": "a", " ": " ", "(": "(", "'": "'", ";": ";", "\n": "\n", "\u20ac": "\u20ac", "\\n": "\n", "\\t": "\t", "\\e": "\x1b", "\\\\": "\\", "\\\"": "\"",
		"\\\n": "", "\\x22\\": "\"", "\\x20aC\\": "\u20ac", "\\x01F600\\": "\U0001f600", "\\x5c\\": "\\", "#": "#",
	}
	s, content := "\"", ""
	for !a.chance(5) {
		c := a.pick("a", " ", "(", "'", ";", "\n", "\u20ac", "\\n", "\\t", "\\e", "\\\\", "\\\"", "\\\n", "\\x22\\", "\\x20aC\\", "\\x01F600\\", "\\x5c\\", "#")
		s += c
		content += values[c]
	}
	a.write(s + "\"")
	return a.create(a.h.Text(content))
}

func (a *author) symbol() api.Word {
	if a.chance(20) {
		a.atom("##")
		return a.word("")
	}
	s, name := "", ""
	for s == "" || a.chance(2) {
		c := a.pick("a", "b", "1", "+", "-", ".", "?", "#", "@", "\u20ac", "(", "]", "\"", ";", " ", "\n", "\\", "'", ",")
		if strings.Contains("(]\"; \n\\',", c) || s == "" && strings.Contains("?#@", c) || a.chance(5) {
			s += "\\"
		}
		s += c
		name += c
	}
	if s == "." || strings.Contains(s, "1") && strings.Trim(s, "+-1") == "" {
		// Without a \ it would be no symbol.
		s = "\\" + s
	}
	a.atom(s)
	return a.word(name)
}

// parts writes forms.
func (a *author) parts(deep int) []api.Word {
	var l []api.Word
	for a.gap(); !a.chance(4); a.gap() {
		l = append(l, a.form(deep))
	}
	return l
}

func (a *author) vector(deep int) api.Word {
	a.write("[")
	l := a.parts(deep)
	a.write("]")
	return a.create(a.h.Vec(l))
}

func (a *author) sequence(deep int) api.Word {
	a.write("(")
	l, tail := a.parts(deep), null
	if len(l) > 0 && a.chance(3) {
		a.atom(".")
		a.gap()
		tail = a.form(deep)
	}
	a.gap()
	a.write(")")
	return a.list(a.t, l, tail)
}

func (a *author) prefixed(deep int) api.Word {
	names := map[string]string{"'": "quote", "`": "`", ",": ",", ",@": ",@", "#'": "function"}
	prefix := a.pick("'", "`", ",", ",@", "#'")
	if prefix == "#'" && a.bare {
		a.write(" ")
	}
	a.write(prefix)
	a.gap()
	w := a.list(a.t, []api.Word{a.form(deep)}, null)
	return a.create(a.h.Cons(a.word(names[prefix]), w))
}
