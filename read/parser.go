package read

import (
	"slices"

	"copyist/api"
	"copyist/heap"
	"copyist/names"
	"copyist/runes"
)

// none stands for the character at the end of the input.
const none = -1

// parser reads forms. It signals an error by a panic with an api.Fault.
type parser struct {
	heap  *heap.Heap
	table *names.Table
	chars []int
	// at is the position of the next character.
	at int
	// opened is the number of brackets and prefixes whose forms are not complete.
	opened int
	// readers contains the methods that read a form by its first character. A form
	// with another one is a token.
	readers map[int]func(*parser) api.Word
}

// newParser returns a parser at the beginning of s.
func newParser(h *heap.Heap, t *names.Table, s string) *parser {
	// A valid heap has a limit, a valid table the fixed symbols.
	if h.Limit() == 0 || t.Many() == 0 {
		panic(api.Fault{Err: api.ErrNil})
	}
	chars, err := runes.List(s)
	check(err, 0)
	return &parser{heap: h, table: t, chars: chars, readers: map[int]func(*parser) api.Word{
		'(':  (*parser).list,
		')':  (*parser).stray,
		'[':  (*parser).vector,
		']':  (*parser).stray,
		'\'': (*parser).quote,
		'`':  (*parser).back,
		',':  (*parser).comma,
		'#':  (*parser).hash,
		'"':  (*parser).text,
		'?':  (*parser).character,
	}}
}

// check panics if there is an error.
func check(err api.Errno, at int) {
	if err != api.OK {
		panic(api.Fault{Err: err, At: at})
	}
}

// symbol returns the word of symbol n.
func symbol(n int) api.Word { return api.Word{Kind: api.KindSym, N: n} }

// look returns the character at position i.
func (p *parser) look(i int) int {
	if i >= len(p.chars) {
		return none
	}
	return p.chars[i]
}

// next returns the next character.
func (p *parser) next() int { return p.look(p.at) }

// ends reports whether position i is the end, or that of a delimiter.
func (p *parser) ends(i int) bool {
	c := p.look(i)
	return c == none || Delimiter(c)
}

// take returns the next character and moves behind it, where the form that is read
// is not complete without one.
func (p *parser) take() int {
	c := p.next()
	if c == none {
		panic(api.Fault{Err: api.ErrForm, At: p.at})
	}
	p.at++
	return c
}

// skip moves to the next character that is neither a blank nor in a comment.
func (p *parser) skip() {
	for {
		switch c := p.next(); {
		case c == ';':
			p.skipComment()
		case Blank(c):
			p.at++
		default:
			return
		}
	}
}

// skipComment moves to the end of the line.
func (p *parser) skipComment() {
	for p.next() != '\n' && p.next() != none {
		p.at++
	}
}

// form reads a form, which is required here.
func (p *parser) form() api.Word {
	p.skip()
	c := p.next()
	if c == none {
		panic(api.Fault{Err: api.ErrForm, At: p.at})
	}
	if read, ok := p.readers[c]; ok {
		return read(p)
	}
	return p.token()
}

// open moves behind the length characters of a bracket or prefix and returns their
// position.
func (p *parser) open(length int) int {
	if p.opened == api.MaxNest {
		panic(api.Fault{Err: api.ErrDepth, At: p.at})
	}
	start := p.at
	p.opened++
	p.at += length
	return start
}

// stray reads a closing bracket where a form is required.
func (p *parser) stray() api.Word { panic(api.Fault{Err: api.ErrForm, At: p.at}) }

// list reads a list.
func (p *parser) list() api.Word {
	start := p.open(1)
	elements, w := p.elements()
	for _, x := range slices.Backward(elements) {
		w = p.cons(x, w, start)
	}
	p.opened--
	return w
}

// elements reads the elements of a list, what ends it, and the bracket after that.
func (p *parser) elements() ([]api.Word, api.Word) {
	var l []api.Word
	for p.skip(); p.next() != ')'; p.skip() {
		if len(l) > 0 && p.next() == '.' && p.ends(p.at+1) {
			return l, p.tail()
		}
		l = append(l, p.form())
	}
	p.at++
	return l, symbol(api.SymNil)
}

// tail reads a dot, the form after it and the bracket after that.
func (p *parser) tail() api.Word {
	p.at++
	w := p.form()
	p.skip()
	if p.take() != ')' {
		panic(api.Fault{Err: api.ErrForm, At: p.at - 1})
	}
	return w
}

// cons creates a cons of the form that begins at start.
func (p *parser) cons(a, d api.Word, start int) api.Word {
	w, err := p.heap.Cons(a, d)
	check(err, start)
	return w
}

// vector reads a vector.
func (p *parser) vector() api.Word {
	start := p.open(1)
	var l []api.Word
	for p.skip(); p.next() != ']'; p.skip() {
		l = append(l, p.form())
	}
	p.at++
	p.opened--
	w, err := p.heap.Vec(l)
	if err == api.ErrLong {
		// Of all that is too long to be created, the chapter has ErrLong only for
		// symbols and strings.
		err = api.ErrFull
	}
	check(err, start)
	return w
}

// quote reads a form with the prefix '.
func (p *parser) quote() api.Word { return p.prefixed(api.SymQuote, 1) }

// back reads a form with a backquote as its prefix.
func (p *parser) back() api.Word { return p.prefixed(api.SymBack, 1) }

// comma reads a form with the prefix , or ,@.
func (p *parser) comma() api.Word {
	if p.look(p.at+1) == '@' {
		return p.prefixed(api.SymSplice, 2)
	}
	return p.prefixed(api.SymComma, 1)
}

// hash reads a form with the prefix #', or the symbol without a name.
func (p *parser) hash() api.Word {
	switch {
	case p.look(p.at+1) == '\'':
		return p.prefixed(api.SymFunction, 2)
	case p.look(p.at+1) == '#' && p.ends(p.at+2):
		p.at += 2
		return p.intern("", p.at-2)
	}
	panic(api.Fault{Err: api.ErrForm, At: p.at})
}

// prefixed reads a prefix of length characters and the form that follows it. It
// returns the list of symbol n and that form.
func (p *parser) prefixed(n, length int) api.Word {
	start := p.open(length)
	w := p.cons(p.form(), symbol(api.SymNil), start)
	p.opened--
	return p.cons(symbol(n), w, start)
}
