package show

import (
	"strings"

	"copyist/api"
	"copyist/read"
)

// prefix returns what stands before the second element of a list instead of its first
// one, or "" if w is not a symbol with a prefix.
func prefix(w api.Word) string {
	if w.Kind != api.KindSym {
		return ""
	}
	rest := ""
	switch w.N {
	case api.SymQuote:
		return "'"
	case api.SymFunction:
		return "#'"
	case api.SymBack:
		return "`"
	case api.SymSplice:
		rest = "@"
		fallthrough
	case api.SymComma:
		return "," + rest
	}
	return ""
}

// name returns the name of symbol n.
func (p *printer) name(n int) string {
	s, ok := p.table.Name(n)
	if !ok {
		panic(api.ErrUnknown)
	}
	return s
}

// symbol returns the text of symbol n.
func (p *printer) symbol(n int) string {
	s := p.name(n)
	interned := p.table.Interned(n)
	switch {
	case p.escape && s == "" && interned:
		return "##"
	case p.escape:
		s = escaped(s)
	}
	if !interned {
		return "#:" + s
	}
	return s
}

// escaped returns a name with what makes the reader take it for a symbol.
func escaped(name string) string {
	var b strings.Builder
	if misleading(name) {
		b.WriteByte('\\')
	}
	for _, c := range name {
		if c == '\\' || read.Delimiter(int(c)) {
			b.WriteByte('\\')
		}
		b.WriteRune(c)
	}
	return b.String()
}

// misleading reports whether the reader would take a name without delimiters for
// something other than a symbol.
func misleading(name string) bool {
	return name == "." || strings.IndexAny(name, "?#@") == 0 || numeral(name)
}

// numeral reports whether s consists of an optional sign and digits.
func numeral(s string) bool {
	sign := strings.TrimRight(s, "0123456789")
	return sign != s && (sign == "" || sign == "+" || sign == "-")
}
