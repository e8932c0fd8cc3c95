package read_test

import (
	"testing"

	"copyist/api"
	"copyist/heap"
	"copyist/names"
	"copyist/read"
)

// P5.1: heaps and tables that are not valid. This is the first error.
func TestInvalid(t *testing.T) {
	d := newDesk(t, 10)
	for _, x := range []desk{{nil, d.t}, {d.h, nil}, {nil, nil}, {&heap.Heap{}, d.t}, {d.h, &names.Table{}}} {
		for _, s := range []string{"a", "", "\xff", ")", "(a) b"} {
			x.fails(t, s, fault(api.ErrNil, 0))
			for _, at := range []int{1, -1, most, least} {
				if w, end, f := read.Read(x.h, x.t, s, at); f != fault(api.ErrNil, 0) || w != (api.Word{}) || end != 0 {
					t.Errorf("Read(%q, %d) = %v, %d, %v", s, at, w, end, f)
				}
			}
		}
	}
	if d.contents() != "" {
		t.Error("the calls created\n" + d.contents())
	}
}

// P5.1: strings that are not valid, wherever that is. This is the second error.
func TestInvalidStrings(t *testing.T) {
	d := newDesk(t, 10)
	for _, s := range []string{"\xff", "a \xff", "a (b) \"\xc3\"", ";\x80", ") \xed\xa0\x80", "\xc0\xaf", "a\xf4\x90\x80\x80"} {
		d.fails(t, s, fault(api.ErrForm, 0))
		for _, at := range []int{-1, 1, 100} {
			if _, _, f := read.Read(d.h, d.t, s, at); f != fault(api.ErrForm, 0) {
				t.Errorf("Read(%q, %d): %v", s, at, f)
			}
		}
	}
	if d.contents() != "" {
		t.Error("the calls created\n" + d.contents())
	}
}

// P5.1: nothing but blanks and comments.
func TestNothing(t *testing.T) {
	for _, s := range []string{"", " ", "\t\n\f\r ", ";", ";a", " ; x", ";\n;\n", ";\u20ac\n \n;\u20ac", ";)", "; \"'\\ ?"} {
		d := newDesk(t, 10)
		if w, end, f := read.Read(d.h, d.t, s, 0); f != fault(api.ErrEnd, length(s)) || w != (api.Word{}) || end != 0 {
			t.Errorf("Read(%q, 0) = %v, %d, %v", s, w, end, f)
		}
		if w, end, f := read.Read(d.h, d.t, "a"+s, 1); f != fault(api.ErrEnd, 1+length(s)) || w != (api.Word{}) || end != 0 {
			t.Errorf("Read(%q, 1) = %v, %d, %v", "a"+s, w, end, f)
		}
		if l, f := read.All(d.h, d.t, s); len(l) != 0 || f != (api.Fault{}) {
			t.Errorf("All(%q) = %v, %v", s, l, f)
		}
	}
}

// P5.1: where the input ends within a form, the position is its length.
func TestCut(t *testing.T) {
	for _, s := range []string{
		"(", "( ", "(;)", "(a", "(a ", "(a .", "(a . ", "(a .;b", "(a . b", "(a . b ", "(a . b;)", "(a (b)", "((a)",
		"[", "[a", "[[a]", "[a ;]", "[(a . b)",
		"'", "`", ",", ",@", "#'", "' ", "#';a", "('", "(a . '", "[,@",
		"\"", "\"a", "\"a\\", "\"a\\\"", "\"\\\\\\", "\"\\x", "\"\\x4", "\"\\x10ffff", "\"\\x41\\", "\"a\\\n", "(a \"b)", "\"\u20ac",
		"?", "?\\", "?\\C", "?\\C-", "?\\C-\\", "?\\C-\\M", "?\\C-\\M-", "?\\S-", "?\\M", "(?", "'?\\C-",
		"\\", "a\\", "(a\\", "1\\", ".\\", "(a .\\", "\u20ac\\", "\\\\\\", "#'\\",
	} {
		fails(t, s, fault(api.ErrForm, length(s)))
		fails(t, " "+s, fault(api.ErrForm, length(s)+1))
	}
}

// malformed checks that each of the texts has the fault ErrForm at the position.
func malformed(t *testing.T, texts map[string]int) {
	t.Helper()
	for s, at := range texts {
		fails(t, s, fault(api.ErrForm, at))
		fails(t, ";\u20ac\n"+s, fault(api.ErrForm, at+3))
	}
}

// P5.1: a bracket that does not match, or stands where a form is required.
func TestStrayBrackets(t *testing.T) {
	malformed(t, map[string]int{
		")": 0, "]": 0, " )": 1, ";\n]": 2, ")(a": 0, "(a ]": 3, "(a]": 2, "[a)": 2, "[a )": 3, "(]": 1, "[)": 1,
		"((a)]": 4, "[(a])": 3, "([a)]": 3, "([)]": 2, "(\u20ac]": 2, "(a ] \"": 3,
		"')": 1, "' ;\n)": 4, "#')": 2, ",@]": 2, "('a ')": 5, "[`]": 2, "(a . ')": 6,
	})
}

// P5.1: a dot that is not allowed, and what is wrong behind one.
func TestStrayDots(t *testing.T) {
	malformed(t, map[string]int{
		".": 0, ". a": 0, " .": 1, ".)": 0, ".'a": 0, ".(a)": 0, "( . a)": 2, "(.)": 1, "(. a)": 1, "(.": 1,
		"(a . . b)": 5, "(1 . . 2)": 5, "(a . .)": 5, "(a . .": 5, "[a . b]": 3, "[. a]": 1, "[a .]": 3,
		"'.": 1, "' . a": 2, "(a '. b)": 4, "(a . '.)": 6, "#'.": 2, "([.])": 2, "(a [b . c])": 6,
		"(a . )": 5, "(a .)": 4, "(a .]": 4, "(a . ]": 5, "[(a . ]": 6,
		// Something else than a bracket after the form after a dot.
		"(a . b c)": 7, "(a . b . c)": 7, "(a . b(c))": 6, "(a . b]": 6, "(a . b ;)\n ]": 11, "(a . (b) (c))": 9,
		"(a . b\"c\")": 6, "(a . 'b 'c)": 8, "(a . b #)": 7, "(a . b \"": 7, "(a . b \\": 7, "(a . \u20ac \u20ac": 7,
	})
}

// P5.1: a \ in a string that begins no escape.
func TestStringEscapes(t *testing.T) {
	malformed(t, map[string]int{
		`"\q"`: 1, `"a\ b"`: 2, `"\s"`: 1, `"\d"`: 1, `"\N"`: 1, `"\T"`: 1, `"\E"`: 1, `"\X41\"`: 1, `"\1"`: 1, `"\'"`: 1,
		`"\("`: 1, `"\C-a"`: 1, `"\M-a"`: 1, `"€\€"`: 2, "\"\\\r\n\"": 1, `"\\\q"`: 3, `"\q`: 1, `(a "\q`: 4, `"\q" )`: 1,
		`"\x\"`: 1, `"\x"`: 1, `"\xg\"`: 1, `"\x4g\"`: 1, `"\x41"`: 1, `"\x41 \"`: 1, `"\x0000041\"`: 1, `"\x1000000\"`: 1,
		`"\x0000041`: 1, `"\x-1\"`: 1, `"\x+1\"`: 1, `"\x4_1\"`: 1, `"\x０\"`: 1, `"\x�\"`: 1, `"\x@\"`: 1, `"\xG\"`: 1, `"\x/\"`: 1, `"\x:\"`: 1,
		`"\xd800\"`: 1, `"\xDFFF\"`: 1, `"\x110000\"`: 1, `"\xffffff\"`: 1, `"ab\x41\\xd800\c`: 8,
	})
}

// P5.1: a \ in a character literal that begins no escape.
func TestCharacterEscapes(t *testing.T) {
	malformed(t, map[string]int{
		`?\a`: 1, `?\b`: 1, `?\x`: 1, `?\z`: 1, `?\A`: 1, `?\Z`: 1, `?\x41\`: 1, `?\N`: 1, `?\D`: 1, `?\E`: 1, `?\T`: 1,
		`?\c-a`: 1, `?\m-a`: 1, `?\H-a`: 1, `?\Ca`: 1, `?\C a`: 1, `?\M+a`: 1, `?\S\-a`: 1, `?\C)`: 1, `?\M\C-a`: 1,
		`?\C-\a`: 4, `?\C-\Ma`: 4, `?\M-\x`: 4, `?\C-\c`: 4, `(a ?\b)`: 4, `?\S-\C-\A`: 7,
	})
}

// P5.1: a character behind a character literal that is no delimiter.
func TestBehindCharacters(t *testing.T) {
	malformed(t, map[string]int{
		"?ab": 2, "?\u20acb": 2, "?a\\": 2, "?a.": 2, "?a#": 2, "?a?b": 2, "(?ab)": 3, "?\\na": 3, "?\\\\\\": 3, "?\\C-ab": 5,
		"?\\1\\": 3, "???": 2, "?(a)": 2, "?;a": 2, "?\x7fa": 2, "?a\v": 2, "?\\s-a": 3, "?-1": 2, "?\"a\"": 2,
	})
}

// P5.1: a # that is not allowed.
func TestHashes(t *testing.T) {
	malformed(t, map[string]int{
		"#": 0, "# ": 0, "#a": 0, "#(a)": 0, "#[a]": 0, "#1": 0, "#\\a": 0, "#,a": 0, "#`a": 0, "#\"a\"": 0, "#?a": 0, "#;": 0, "#\\": 0,
		"##a": 0, "###": 0, "##\\": 0, "##.": 0, "##1": 0, "##?a": 0, "##\\ ": 0, " #:a": 1, "(a #b)": 3, "(#)": 1, "'#": 1,
		"(##.##)": 1, "(a . #)": 5, "[## ##a]": 4, "# 'a": 0, "#'#": 2, "#'#a": 2,
	})
}

// P5.1: an integer that is too great, however great it is.
func TestErrOver(t *testing.T) {
	for s, at := range map[string]int{
		"2305843009213693952": 0, "+2305843009213693952": 0, "-2305843009213693953": 0, "(1 2305843009213693952)": 3, "'-2305843009213693953": 1,
		"9223372036854775807": 0, "9223372036854775808": 0, "-9223372036854775808": 0, "-9223372036854775809": 0, "18446744073709551617": 0,
		"00000000000000000002305843009213693952": 0, "36893488147419103233": 0,
	} {
		fails(t, s, fault(api.ErrOver, at))
	}
}

// P5.1: an error of All behind forms that it could read. They are not returned, but
// what was created for them remains.
func TestErrorBehindForms(t *testing.T) {
	for s, want := range map[string]api.Fault{
		"1 )": fault(api.ErrForm, 2), "(a) \"b\" ] c": fault(api.ErrForm, 8), "a . b": fault(api.ErrForm, 2), "\u20ac)": fault(api.ErrForm, 1),
		"?  ?aa": fault(api.ErrForm, 5), "a 9999999999999999999": fault(api.ErrOver, 2), "a ; b\n(": fault(api.ErrForm, 7), "a #": fault(api.ErrForm, 2),
	} {
		d := newDesk(t, 10)
		if l, f := read.All(d.h, d.t, s); len(l) != 0 || f != want {
			t.Errorf("All(%q) = %v, %v, not %v", s, l, f, want)
		}
	}
	d := newDesk(t, 10)
	read.All(d.h, d.t, "(a) \"b\" ] c")
	if got, want := d.contents(), "0: cons 1/62 1/0\n1: \"b\"\n62: <a>\n"; got != want {
		t.Errorf("there is\n%snot\n%s", got, want)
	}
}

// P5.1: the first of several errors from the left.
func TestFirstError(t *testing.T) {
	for s, want := range map[string]api.Fault{
		"(9999999999999999999 #)":  fault(api.ErrOver, 1),
		"(# 9999999999999999999)":  fault(api.ErrForm, 1),
		"(\"\\q\" #a":              fault(api.ErrForm, 2),
		"(?ab . . c":               fault(api.ErrForm, 3),
		"'9999999999999999999 )":   fault(api.ErrOver, 1),
		"[a ) 9999999999999999":    fault(api.ErrForm, 3),
		"(a . 9999999999999999999": fault(api.ErrOver, 5),
	} {
		fails(t, s, want)
	}
}
