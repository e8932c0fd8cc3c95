package show

import (
	"strconv"
	"strings"

	"copyist/api"
	"copyist/heap"
	"copyist/names"
	"copyist/runes"
)

// printer builds a text. It signals an error by a panic with an api.Errno.
type printer struct {
	strings.Builder
	heap   *heap.Heap
	table  *names.Table
	escape bool
	// length is the number of characters of the text.
	length int
	// opened is the number of brackets and prefixes whose forms are not complete.
	opened int
}

// newPrinter returns a printer with an empty text.
func newPrinter(h *heap.Heap, t *names.Table, escape bool) *printer {
	// A valid heap has a limit, a valid table the fixed symbols.
	if h.Limit() == 0 || t.Many() == 0 {
		panic(api.ErrNil)
	}
	return &printer{heap: h, table: t, escape: escape}
}

// write adds s to the text.
func (p *printer) write(s string) {
	p.length += runes.Len(s)
	if p.length > api.MaxChars {
		panic(api.ErrLong)
	}
	p.WriteString(s)
}

// open writes a bracket or prefix.
func (p *printer) open(s string) {
	if p.opened == api.MaxNest {
		panic(api.ErrDepth)
	}
	p.opened++
	p.write(s)
}

// shut writes what is behind the form of a bracket or prefix.
func (p *printer) shut(s string) {
	p.opened--
	p.write(s)
}

// word writes the text of w.
func (p *printer) word(w api.Word) {
	if !p.heap.Live(w) {
		panic(api.ErrType)
	}
	switch w.Kind {
	case api.KindInt:
		p.write(strconv.Itoa(w.N))
	case api.KindSym:
		p.write(p.symbol(w.N))
	case api.KindCons:
		p.cons(w)
	case api.KindText:
		p.write(p.text(w))
	case api.KindVec:
		p.vector(w)
	case api.KindPrim:
		p.write("#<subr " + p.name(w.N) + ">")
	default:
		p.write("#<" + title(w.Kind) + " " + strconv.Itoa(w.N) + ">")
	}
}

// title returns what the objects of a kind are called that have no text but their
// number.
func title(kind int) string {
	switch kind {
	case api.KindCode:
		return "code"
	case api.KindBuffer:
		return "buffer"
	case api.KindMarker:
		return "marker"
	case api.KindOver:
		return "overlay"
	}
	return "window"
}

// text returns the text of a string.
func (p *printer) text(w api.Word) string {
	s, err := p.heap.TextOf(w)
	if err != api.OK {
		panic(err)
	}
	if !p.escape {
		return s
	}
	return `"` + strings.NewReplacer(`"`, `\"`, `\`, `\\`).Replace(s) + `"`
}

// vector writes a vector.
func (p *printer) vector(w api.Word) {
	p.open("[")
	for i := 0; ; i++ {
		x, err := p.heap.At(w, i)
		if err != api.OK {
			break
		}
		if i > 0 {
			p.write(" ")
		}
		p.word(x)
	}
	p.shut("]")
}

// cons writes a list, or the form that a list is shown as.
func (p *printer) cons(w api.Word) {
	first, rest := p.parts(w)
	if s := prefix(first); s != "" && p.isCons(rest) {
		if second, end := p.parts(rest); isNil(end) {
			p.open(s)
			p.word(second)
			p.shut("")
			return
		}
	}
	p.list(first, rest)
}

// list writes a list of first and the elements of rest.
func (p *printer) list(first, rest api.Word) {
	p.open("(")
	p.word(first)
	for p.isCons(rest) {
		p.write(" ")
		first, rest = p.parts(rest)
		p.word(first)
	}
	if !isNil(rest) {
		p.write(" . ")
		p.word(rest)
	}
	p.shut(")")
}

// isCons reports whether w is a live cons.
func (p *printer) isCons(w api.Word) bool { return w.Kind == api.KindCons && p.heap.Live(w) }

// parts returns the car and the cdr of a live cons.
func (p *printer) parts(w api.Word) (api.Word, api.Word) {
	a, _ := p.heap.Car(w)
	d, _ := p.heap.Cdr(w)
	return a, d
}

// isNil reports whether w is the Lisp's nil.
func isNil(w api.Word) bool { return w == api.Word{Kind: api.KindSym, N: api.SymNil} }
