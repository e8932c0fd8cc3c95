package read

import (
	"strconv"
	"strings"

	"copyist/api"
)

// token reads an integer or a symbol.
func (p *parser) token() api.Word {
	start, plain := p.at, true
	var b strings.Builder
	for !p.ends(p.at) {
		c := p.take()
		if c == '\\' {
			plain = false
			c = p.take()
		}
		b.WriteRune(rune(c))
	}
	s := b.String()
	switch {
	case plain && s == ".":
		panic(api.Fault{Err: api.ErrForm, At: start})
	case plain && numeral(s):
		return integer(s, start)
	}
	return p.intern(s, start)
}

// numeral reports whether s consists of an optional sign and digits.
func numeral(s string) bool {
	if s[0] == '+' || s[0] == '-' {
		s = s[1:]
	}
	return s != "" && strings.Trim(s, "0123456789") == ""
}

// integer returns the integer that s, which begins at start, is the numeral of.
func integer(s string, start int) api.Word {
	n, err := strconv.Atoi(s)
	if err != nil || n < api.MinInt || n > api.MaxInt {
		panic(api.Fault{Err: api.ErrOver, At: start})
	}
	return api.Word{Kind: api.KindInt, N: n}
}

// intern returns the symbol with the name s, which begins at start.
func (p *parser) intern(s string, start int) api.Word {
	n, err := p.table.Intern(s)
	check(err, start)
	return symbol(n)
}
