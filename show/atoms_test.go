package show_test

import (
	"strconv"
	"strings"
	"testing"

	"copyist/api"
)

// P6.1: integers, also those that the reader does not accept.
func TestIntegers(t *testing.T) {
	d := newDesk(t, 1)
	for n, s := range map[int]string{
		0: "0", 7: "7", -1: "-1", 10: "10", -120: "-120", 97: "97",
		api.MaxInt: "2305843009213693951", api.MinInt: "-2305843009213693952", api.MaxInt + 1: "2305843009213693952",
		most: "9223372036854775807", least: "-9223372036854775808",
	} {
		d.same(number(n), s)
	}
}

// P6.1: strings. Only quotes and backslashes are escaped.
func TestStrings(t *testing.T) {
	d := newDesk(t, 100)
	for s, escaped := range map[string]string{
		"":               `""`,
		"a":              `"a"`,
		"a b":            `"a b"`,
		`a"b`:            `"a\"b"`,
		`"`:              `"\""`,
		`\`:              `"\\"`,
		`\"\\`:           `"\\\"\\\\"`,
		`a\n`:            `"a\\n"`,
		"\n\t\x1b\x00":   "\"\n\t\x1b\x00\"",
		"()[]'`,;?#@.":   "\"()[]'`,;?#@.\"",
		"\u20ac\"\u20ac": "\"\u20ac\\\"\u20ac\"",
		"12":             `"12"`,
		"\U0010ffff":     "\"\U0010ffff\"",
	} {
		d.shows(d.text(s), escaped, s)
	}
}

// P6.1: symbols whose names need no escapes.
func TestSymbols(t *testing.T) {
	d := newDesk(t, 1)
	for _, s := range []string{
		"a", "nil", "t", "lambda", "&rest", "car", "A", "\u20ac", "a?b", "a#", "a@b", "a.b", "..", ".a", "a.", "+", "-", "1+", "+-1", "-+1", "--1", "1-", "1.5", "1e3",
		"+a", "0x1", "a1", "1a", "*", "/", "<=", ":a", "a:b", "{", "|", "&", "\x00", "\x0b", "\u00a0", "\u0661", "+\u0661", "-#", "1?",
	} {
		d.same(d.intern(s), s)
	}
}

// P6.1: symbols whose names need escapes; a backslash is put before delimiters and
// backslashes, and before the first character, where necessary.
func TestEscapedSymbols(t *testing.T) {
	d := newDesk(t, 1)
	for s, escaped := range map[string]string{
		"":                          "##",
		".":                         `\.`,
		"?":                         `\?`,
		"?a":                        `\?a`,
		"??":                        `\??`,
		"#":                         `\#`,
		"##":                        `\##`,
		"#:a":                       `\#:a`,
		"#'":                        `\#\'`,
		"@":                         `\@`,
		"@a":                        `\@a`,
		"@@":                        `\@@`,
		"?\\":                       `\?\\`,
		"@ b":                       `\@\ b`,
		"0":                         `\0`,
		"12":                        `\12`,
		"007":                       `\007`,
		"+5":                        `\+5`,
		"-5":                        `\-5`,
		"-0":                        `\-0`,
		" ":                         `\ `,
		"a b":                       `a\ b`,
		"a  b ":                     `a\ \ b\ `,
		"1 2":                       `1\ 2`,
		"\\":                        `\\`,
		"\\\\":                      `\\\\`,
		"\\1":                       `\\1`,
		"1\\":                       `1\\`,
		"a\nb":                      "a\\\nb",
		"\t\f\r":                    "\\\t\\\f\\\r",
		"()":                        `\(\)`,
		"[a]":                       `\[a\]`,
		"'a":                        `\'a`,
		"\"a\"":                     `\"a\"`,
		";a":                        `\;a`,
		"a;b":                       `a\;b`,
		",":                         `\,`,
		",@":                        `\,@`,
		"`":                         "\\`",
		". ":                        `.\ `,
		"\u20ac,":                   "\u20ac\\,",
		"?\u20ac":                   "\\?\u20ac",
		"?(\u20ac)":                 "\\?\\(\u20ac\\)",
		"1234567890123456789012345": `\1234567890123456789012345`,
	} {
		d.shows(d.intern(s), escaped, s)
	}
}

// P6.1: every ASCII character, alone, at the beginning, in the middle and at the end
// of a name.
func TestEveryCharacter(t *testing.T) {
	d := newDesk(t, 1)
	for c := range 128 {
		s := string(rune(c))
		first, inner := s, s
		if strings.Contains("\t\n\f\r ()[]\"'`,;\\", s) {
			first, inner = `\`+s, `\`+s
		}
		if strings.Contains("?#@", s) {
			first = `\` + s
		}
		alone := first
		if strings.Contains("0123456789.", s) {
			alone = `\` + s
		}
		d.shows(d.intern(s), alone, s)
		d.shows(d.intern(s+"a"), first+"a", s+"a")
		d.shows(d.intern("a"+s+"b"), "a"+inner+"b", "a"+s+"b")
		d.shows(d.intern("a"+s), "a"+inner, "a"+s)
	}
}

// P6.1: the fixed symbols.
func TestFixedSymbols(t *testing.T) {
	d := newDesk(t, 1)
	escapes := map[int]string{api.SymBack: "\\`", api.SymComma: `\,`, api.SymSplice: `\,@`}
	for n := range api.FixedSyms {
		s, _ := d.n.Name(n)
		escaped, ok := escapes[n]
		if !ok {
			escaped = s
		}
		d.shows(symbol(n), escaped, s)
	}
}

// P6.1: symbols that are not interned, whether or not their names are found.
func TestFreshSymbols(t *testing.T) {
	d := newDesk(t, 1)
	for s, escaped := range map[string]string{
		"": "#:", "a": "#:a", "nil": "#:nil", "12": `#:\12`, "a b": `#:a\ b`, ".": `#:\.`, "#": `#:\#`, "?a": `#:\?a`, "@": `#:\@`, "'": `#:\'`, "\\": `#:\\`, "#:a": `#:\#:a`,
	} {
		d.shows(d.fresh(s), escaped, "#:"+s)
	}
	w := d.fresh("b")
	d.same(w, "#:b")
	d.same(d.intern("b"), "b")
	d.same(w, "#:b")
	d.same(d.fresh("b"), "#:b")
}

// P6.1: what has no text but its number, and primitives, whose names are not escaped.
func TestOtherObjects(t *testing.T) {
	d := newDesk(t, 10)
	for kind, name := range map[int]string{api.KindBuffer: "buffer", api.KindMarker: "marker", api.KindOver: "overlay", api.KindWindow: "window"} {
		for _, n := range []int{0, 1, -1, 1234, most, least} {
			d.same(api.Word{Kind: kind, N: n}, "#<"+name+" "+strconv.Itoa(n)+">")
		}
	}
	d.text("a")
	d.same(d.created(d.h.Code(api.Code{})), "#<code 1>")
	d.same(d.created(d.h.Code(api.Code{Bytes: []byte("abc"), Consts: []api.Word{dead(), strange()}})), "#<code 2>")
	for s, want := range map[string]string{"car": "#<subr car>", "nil": "#<subr nil>", "a b": "#<subr a b>", "12": "#<subr 12>", "": "#<subr >", ",@": "#<subr ,@>", "\\": "#<subr \\>"} {
		d.same(api.Word{Kind: api.KindPrim, N: d.intern(s).N}, want)
	}
	d.same(api.Word{Kind: api.KindPrim, N: d.fresh("a b").N}, "#<subr a b>")
}
