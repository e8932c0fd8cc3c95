package read

import (
	"strings"

	"copyist/api"
	"copyist/runes"
)

// mostDigits is how many digits the number of a character has at most.
const mostDigits = 6

// text reads a string.
func (p *parser) text() api.Word {
	start := p.at
	p.at++
	var b strings.Builder
	for c := p.take(); c != '"'; c = p.take() {
		if c == '\\' {
			c = p.textEscape()
		}
		if c != none {
			b.WriteRune(rune(c))
		}
	}
	w, err := p.heap.Text(b.String())
	check(err, start)
	return w
}

// textEscape reads an escape in a string behind its backslash, and returns the
// character that it stands for, or none.
func (p *parser) textEscape() int {
	start := p.at - 1
	c := p.take()
	switch c {
	case '\\', '"':
		return c
	case '\n':
		return none
	case 'x':
		return p.numbered(start)
	}
	return control(c, start)
}

// numbered reads the number of a character and the backslash behind it. The escape
// begins at start.
func (p *parser) numbered(start int) int {
	n, digits, c := 0, 0, p.take()
	for ; digits < mostDigits && digit(c) >= 0; c = p.take() {
		n = 16*n + digit(c)
		digits++
	}
	if digits == 0 || c != '\\' || !runes.Is(n) {
		panic(api.Fault{Err: api.ErrForm, At: start})
	}
	return n
}

// digit returns the value of a hexadecimal digit, or -1 if c is none.
func digit(c int) int { return strings.IndexRune("0123456789abcdef", rune(runes.Down(c))) }

// control returns the control character that c stands for behind the backslash at
// start.
func control(c, start int) int {
	switch c {
	case 'n':
		return '\n'
	case 't':
		return '\t'
	case 'e':
		return 27
	}
	panic(api.Fault{Err: api.ErrForm, At: start})
}

// character reads a character literal.
func (p *parser) character() api.Word {
	p.at++
	modifiers, c := 0, none
	for c == none {
		c = p.take()
		if c == '\\' {
			c = p.characterEscape(&modifiers)
		}
	}
	if !p.ends(p.at) {
		panic(api.Fault{Err: api.ErrForm, At: p.at})
	}
	return api.Word{Kind: api.KindInt, N: modify(c, modifiers)}
}

// characterEscape reads an escape in a character literal behind its backslash. It
// returns the character that it stands for, or none if it is a modifier, which is
// added to the others.
func (p *parser) characterEscape(modifiers *int) int {
	start := p.at - 1
	c := p.take()
	if m := modifier(c); m != 0 {
		if p.take() != '-' {
			panic(api.Fault{Err: api.ErrForm, At: start})
		}
		*modifiers |= m
		return none
	}
	switch {
	case c == 's':
		return ' '
	case c == 'd':
		return 127
	case 'a' <= runes.Down(c) && runes.Down(c) <= 'z':
		return control(c, start)
	}
	return c
}

// modifier returns the bit of the modifier with the letter c, or 0 if there is none.
func modifier(c int) int {
	switch c {
	case 'C':
		return api.ModCtrl
	case 'M':
		return api.ModMeta
	case 'S':
		return api.ModShift
	}
	return 0
}

// modify adds modifiers to a character. C replaces those characters that have a
// control character.
func modify(c, modifiers int) int {
	if modifiers&api.ModCtrl == 0 {
		return c + modifiers
	}
	others := modifiers &^ api.ModCtrl
	switch {
	case 'a' <= c && c <= 'z' || '@' <= c && c <= '_':
		return c%32 + others
	case c == '?':
		return 127 + others
	}
	return c + modifiers
}
