package read_test

import (
	"strconv"
	"strings"
	"testing"

	"copyist/api"
	"copyist/read"
)

// spelled is the text of a form, the form, and the position after it.
type spelled struct {
	text, form string
	end        int
}

// P5.1: what is skipped before a form.
func TestSkipped(t *testing.T) {
	for _, x := range []spelled{
		{"a", "<a>", 1},
		{" \t\n\f\ra", "<a>", 6},
		{";\na", "<a>", 3},
		{"; (b \" \\ ? #\n ;;c\n;d\na;e", "<a>", 22},
		{";b\ra\nc", "<c>", 6},
		{"a ", "<a>", 1},
		{"a;b", "<a>", 1},
		{"a\fb", "<a>", 1},
		{"\u20ac \U0001f600", "<\u20ac>", 1},
		{";\u20ac\n\u20ac", "<\u20ac>", 4},
		{"\va\v", "<\va\v>", 3},
		{"\u00a0", "<\u00a0>", 1},
		{"\x00", "<\x00>", 1},
	} {
		reads(t, x.text, x.form, x.end)
	}
}

// P5.1
func TestLists(t *testing.T) {
	for _, x := range []spelled{
		{"()", "<nil>", 2},
		{"( \n;)\n )", "<nil>", 8},
		{"(a)", "(<a>)", 3},
		{"(a b 3)", "(<a> <b> 3)", 7},
		{"( a\tb;)\n )", "(<a> <b>)", 10},
		{"(a()(b)\"c\"[d]'e)", "(<a> <nil> (<b>) \"c\" [<d>] (<quote> <e>))", 16},
		{"(())", "(<nil>)", 4},
		{"(((a)))b", "(((<a>)))", 7},
		{"(?))", "(41)", 4},
		{"(\")\")", "(\")\")", 5},
		{"(\\))", "(<)>)", 4},
		// A dot.
		{"(a . b)", "(<a> . <b>)", 7},
		{"(a b . c)", "(<a> <b> . <c>)", 9},
		{"(a . nil)", "(<a>)", 9},
		{"(a . ())", "(<a>)", 8},
		{"(a . (b c))", "(<a> <b> <c>)", 11},
		{"(a . (b . c))", "(<a> <b> . <c>)", 13},
		{"((a) .(b))", "((<a>) <b>)", 10},
		{"(a .\"b\")", "(<a> . \"b\")", 8},
		{"(a .'b)", "(<a> <quote> <b>)", 7},
		{"(a .,b)", "(<a> <,> <b>)", 7},
		{"(a .[b])", "(<a> . [<b>])", 8},
		{"(a .;c\nb ;d\n)", "(<a> . <b>)", 13},
		{"((a).\fb\n)", "((<a>) . <b>)", 9},
		{"([]. 1)", "([] . 1)", 7},
		{"(\"\". 1)", "(\"\" . 1)", 7},
		{"(?. . ?.)", "(46 . 46)", 9},
		{"((a . b) . (c . d))", "((<a> . <b>) <c> . <d>)", 19},
		// What is no dot.
		{"(a .b)", "(<a> <.b>)", 6},
		{"(a. b)", "(<a.> <b>)", 6},
		{"(a.b)", "(<a.b>)", 5},
		{"(a .. b)", "(<a> <..> <b>)", 8},
		{"(a \\. b)", "(<a> <.> <b>)", 8},
		{"(a .\\ b)", "(<a> <. b>)", 8},
		{"(\\.)", "(<.>)", 4},
		{"(a .#b)", "(<a> <.#b>)", 7},
		{"(a .?b)", "(<a> <.?b>)", 7},
	} {
		reads(t, x.text, x.form, x.end)
	}
}

// P5.1
func TestVectors(t *testing.T) {
	for _, x := range []spelled{
		{"[]", "[]", 2},
		{"[ ;]\n ]", "[]", 7},
		{"[a]", "[<a>]", 3},
		{"[1 (a . (b))]", "[1 (<a> <b>)]", 13},
		{"[[][a]()]b", "[[] [<a>] <nil>]", 9},
		{"[.a b. \\.]", "[<.a> <b.> <.>]", 10},
		{"[?]]", "[93]", 4},
		{"['a\"b\"c]", "[(<quote> <a>) \"b\" <c>]", 8},
	} {
		reads(t, x.text, x.form, x.end)
	}
}

// P5.1
func TestPrefixes(t *testing.T) {
	for _, x := range []spelled{
		{"'a", "(<quote> <a>)", 2},
		{"`a", "(<`> <a>)", 2},
		{",a", "(<,> <a>)", 2},
		{",@a", "(<,@> <a>)", 3},
		{"#'a", "(<function> <a>)", 3},
		{"' \n;b\n a", "(<quote> <a>)", 8},
		{"#' a", "(<function> <a>)", 4},
		{", @a", "(<,> <@a>)", 4},
		{",\\@a", "(<,> <@a>)", 4},
		{",@@a", "(<,@> <@a>)", 4},
		{",@ a", "(<,@> <a>)", 4},
		{"''a", "(<quote> (<quote> <a>))", 3},
		{"`,,@#'a", "(<`> (<,> (<,@> (<function> <a>))))", 7},
		{"'()", "(<quote> <nil>)", 3},
		{"'(1 \"x\") ; c", "(<quote> (1 \"x\"))", 8},
		{"`(a ,b ,@c)", "(<`> (<a> (<,> <b>) (<,@> <c>)))", 11},
		{"'[a]'b", "(<quote> [<a>])", 4},
		{"#'##", "(<function> <>)", 4},
		{"'?a", "(<quote> 97)", 3},
		{"(a . 'b)", "(<a> <quote> <b>)", 8},
	} {
		reads(t, x.text, x.form, x.end)
	}
}

// P5.1
func TestStrings(t *testing.T) {
	for _, x := range []spelled{
		{`""`, `""`, 2},
		{`"a b"`, `"a b"`, 5},
		{`"a"b`, `"a"`, 3},
		{"\"a\n\t\x00\x7f\"", `"a\n\t\x00\x7f"`, 7},
		{`"(';#?.,[]` + "`" + `)"`, `"(';#?.,[]` + "`" + `)"`, 13},
		{`"é€😀"`, `"é€😀"`, 5},
		{`"\n\t\e\\\""`, `"\n\t\x1b\\\""`, 12},
		{`"\\n"`, `"\\n"`, 5},
		{"\"a\\\nb\\\n\"", `"ab"`, 8},
		{`"\x41\"`, `"A"`, 7},
		{`"\x0\\x7f\"`, `"\x00\x7f"`, 11},
		{`"\x41\\x42\c"`, `"ABc"`, 13},
		{`"\xe9\\x20AC\\x1F600\\x1f600\"`, `"é€😀😀"`, 30},
		{`"\x00004a\"`, `"J"`, 11},
		{`"\xd7ff\\xe000\\x10ffff\\x10FFFF\"`, strconv.Quote("\ud7ff\ue000\U0010ffff\U0010ffff"), 34},
		{`"\xA\\xa\\xF\\xf\\x9\\x0\"`, `"\n\n\x0f\x0f\t\x00"`, 26},
	} {
		reads(t, x.text, x.form, x.end)
	}
}

// P5.1
func TestCharacters(t *testing.T) {
	for _, x := range []spelled{
		{"?a", "97", 2},
		{"?a b", "97", 2},
		{"?a)", "97", 2},
		{"?a'b", "97", 2},
		{"?a;b", "97", 2},
		{"?Z", "90", 2},
		{"? ", "32", 2},
		{"?  ", "32", 2},
		{"?\n", "10", 2},
		{"??", "63", 2},
		{"?(", "40", 2},
		{"?)", "41", 2},
		{"?\"", "34", 2},
		{"?;", "59", 2},
		{"?'", "39", 2},
		{"?#", "35", 2},
		{"?.", "46", 2},
		{"?\u20ac", "8364", 2},
		{"?\U0010ffff", "1114111", 2},
		{"?\\n", "10", 3},
		{"?\\t", "9", 3},
		{"?\\e", "27", 3},
		{"?\\s", "32", 3},
		{"?\\d", "127", 3},
		{"?\\\\", "92", 3},
		{"?\\\"", "34", 3},
		{"?\\(", "40", 3},
		{"?\\ ", "32", 3},
		{"?\\\n", "10", 3},
		{"?\\1", "49", 3},
		{"?\\-", "45", 3},
		{"?\\@", "64", 3},
		{"?\\[", "91", 3},
		{"?\\`", "96", 3},
		{"?\\{", "123", 3},
		{"?\\\u00e9", "233", 3},
		{"?\\\u20ac", "8364", 3},
	} {
		reads(t, x.text, x.form, x.end)
	}
}

// P5.1
func TestModifiers(t *testing.T) {
	const ctrl, meta, shift = 1 << 26, 1 << 27, 1 << 25
	for s, want := range map[string]int{
		"?\\C-a": 1, "?\\C-z": 26, "?\\C-A": 1, "?\\C-Z": 26, "?\\C-@": 0, "?\\C-[": 27, "?\\C-]": 29, "?\\C-^": 30,
		"?\\C-_": 31, "?\\C-?": 127, "?\\C-`": ctrl + 96, "?\\C-{": ctrl + 123, "?\\C-%": ctrl + 37, "?\\C- ": ctrl + 32,
		"?\\C->": ctrl + 62, "?\\C-\u00e9": ctrl + 0xe9, "?\\C-1": ctrl + 49, "?\\C--": ctrl + 45,
		"?\\M-x": meta + 120, "?\\M-X": meta + 88, "?\\M-?": meta + 63, "?\\M-\u20ac": meta + 0x20ac, "?\\S-a": shift + 97, "?\\S-A": shift + 65,
		"?\\M-\\C-a": meta + 1, "?\\C-\\M-a": meta + 1, "?\\C-\\M-%": meta + ctrl + 37, "?\\S-\\C-?": shift + 127,
		"?\\S-\\M-a": meta + shift + 97, "?\\C-\\M-\\S-_": meta + shift + 31, "?\\S-\\C-\\M-+": meta + shift + ctrl + 43,
		// The same modifier again adds nothing.
		"?\\M-\\M-a": meta + 97, "?\\C-\\C-a": 1, "?\\S-\\M-\\S-a": meta + shift + 97, "?\\C-\\M-\\C-%": meta + ctrl + 37,
		// A character that is written as an escape.
		"?\\C-\\n": ctrl + 10, "?\\C-\\t": ctrl + 9, "?\\C-\\e": ctrl + 27, "?\\C-\\s": ctrl + 32, "?\\C-\\d": ctrl + 127,
		"?\\C-\\\\": 28, "?\\C-\\?": 127, "?\\C-\\[": 27, "?\\C-\\(": ctrl + 40, "?\\M-\\\\": meta + 92, "?\\M-\\d": meta + 127,
		"?\\S-\\s": shift + 32, "?\\M-(": meta + 40, "?\\M-;": meta + 59, "?\\M-\\C-\"": meta + ctrl + 34,
	} {
		for _, behind := range []string{"", " ", ")", "\n(a"} {
			d := newDesk(t, 10)
			w, end, f := read.Read(d.h, d.t, s+behind, 0)
			if w != number(want) || end != length(s) || f != (api.Fault{}) {
				t.Errorf("%q: %v, %d, %v, not %d", s+behind, w, end, f, want)
			}
		}
	}
}

// P5.1
func TestIntegers(t *testing.T) {
	for _, x := range []spelled{
		{"0", "0", 1},
		{"-0", "0", 2},
		{"+5)", "5", 2},
		{"-12;", "-12", 3},
		{"007", "7", 3},
		{"-007", "-7", 4},
		{"12\"a\"", "12", 2},
		{"2305843009213693951", "2305843009213693951", 19},
		{"+2305843009213693951", "2305843009213693951", 20},
		{"-2305843009213693951", "-2305843009213693951", 20},
		{"-2305843009213693952", "-2305843009213693952", 20},
		{"-00002305843009213693952", "-2305843009213693952", 24},
		{strings.Repeat("0", 2000) + "1", "1", 2001},
	} {
		reads(t, x.text, x.form, x.end)
	}
}

// P5.1
func TestSymbols(t *testing.T) {
	for _, x := range []spelled{
		{"nil", "<nil>", 3},
		{"Nil", "<Nil>", 3},
		{"+", "<+>", 1},
		{"-", "<->", 1},
		{"--1", "<--1>", 3},
		{"+-1", "<+-1>", 3},
		{"1+", "<1+>", 2},
		{"1-2", "<1-2>", 3},
		{"1.5", "<1.5>", 3},
		{"1.", "<1.>", 2},
		{".1", "<.1>", 2},
		{"-.", "<-.>", 2},
		{"1e5", "<1e5>", 3},
		{"0x1f", "<0x1f>", 4},
		{"1_0", "<1_0>", 3},
		{"\u0661", "<\u0661>", 1},
		{"-2305843009213693952x", "<-2305843009213693952x>", 21},
		{"a#b?c@d", "<a#b?c@d>", 7},
		{"@", "<@>", 1},
		{"@a", "<@a>", 2},
		{"{}|&*/:<=>!$%^_~", "<{}|&*/:<=>!$%^_~>", 16},
		{"a'b", "<a>", 1},
		{"a(b", "<a>", 1},
		{"a]b", "<a>", 1},
		{"a,b", "<a>", 1},
		{"a`b", "<a>", 1},
		{"a\"b", "<a>", 1},
		{"\\12", "<12>", 3},
		{"1\\2", "<12>", 3},
		{"\\+1", "<+1>", 3},
		{"-\\1", "<-1>", 3},
		{"\\.", "<.>", 2},
		{"..", "<..>", 2},
		{"a\\ b", "<a b>", 4},
		{"\\(\\)\\;\\\"\\'\\,\\`\\[\\]", "<();\"',`[]>", 18},
		{"\\\\", "<\\>", 2},
		{"\\n\\x41", "<nx41>", 6},
		{"\\a\\b", "<ab>", 4},
		{"\\\n", "<\n>", 2},
		{"\\?a", "<?a>", 3},
		{"\\##", "<##>", 3},
		{"\\\u20ac", "<\u20ac>", 2},
		{"##", "<>", 2},
		{"## ", "<>", 2},
		{"##)", "<>", 2},
		{"##'a", "<>", 2},
		{"##;a", "<>", 2},
	} {
		reads(t, x.text, x.form, x.end)
	}
}

// P5.1: equal names are the same symbol, one that is interned and not a new one.
func TestSameSymbol(t *testing.T) {
	d := newDesk(t, 10)
	car, _ := d.t.Intern("car")
	d.t.Fresh("cdr")
	l, f := read.All(d.h, d.t, "car cdr \\car c\\ar cdr ## ## quote")
	if f != (api.Fault{}) || len(l) != 8 {
		t.Fatal(l, f)
	}
	for i, n := range []int{car, car + 2, car, car, car + 2, car + 3, car + 3, api.SymQuote} {
		if l[i] != (api.Word{Kind: api.KindSym, N: n}) {
			t.Errorf("symbol %d is %v, not %d", i, l[i], n)
		}
	}
}

// P5.1: Read at any position, which it reports its results by.
func TestReadAt(t *testing.T) {
	s := " \u20ac (b c) ;d\n\"e\""
	for at, want := range map[int]spelled{
		0: {form: "<\u20ac>", end: 2}, 1: {form: "<\u20ac>", end: 2}, 2: {form: "(<b> <c>)", end: 8},
		3: {form: "(<b> <c>)", end: 8}, 4: {form: "<b>", end: 5}, 5: {form: "<c>", end: 7}, 6: {form: "<c>", end: 7},
		8: {form: "\"e\"", end: 15}, 10: {form: "<d>", end: 11}, 11: {form: "\"e\"", end: 15}, 13: {form: "<e>", end: 14},
	} {
		d := newDesk(t, 10)
		w, end, f := read.Read(d.h, d.t, s, at)
		if got := d.spell(w); got != want.form || end != want.end || f != (api.Fault{}) {
			t.Errorf("at %d: %s, %d, %v, not %s, %d", at, got, end, f, want.form, want.end)
		}
	}
	for at, want := range map[int]api.Fault{
		7: fault(api.ErrForm, 7), 14: fault(api.ErrForm, 15), 15: fault(api.ErrEnd, 15), 16: fault(api.ErrRange, 0),
		-1: fault(api.ErrRange, 0), 18: fault(api.ErrRange, 0), least: fault(api.ErrRange, 0), most: fault(api.ErrRange, 0),
	} {
		d := newDesk(t, 10)
		if w, end, f := read.Read(d.h, d.t, s, at); f != want || w != (api.Word{}) || end != 0 {
			t.Errorf("at %d: %v, %d, %v, not %v", at, w, end, f, want)
		}
	}
}

// P5.1
func TestAll(t *testing.T) {
	for s, want := range map[string]string{
		"":                         "",
		" ;a":                      "",
		"a":                        "<a>",
		"1 a ;x\n \"s\"":           "1 <a> \"s\"",
		"(a)(b)[c]'d\"e\"f":        "(<a>) (<b>) [<c>] (<quote> <d>) \"e\" <f>",
		"a'b":                      "<a> (<quote> <b>)",
		"?a\"b\"##(c)\n;d\n?\\ \n": "97 \"b\" <> (<c>) 32",
	} {
		d := newDesk(t, 100)
		l, f := read.All(d.h, d.t, s)
		if got := d.spellAll(l); got != want || f != (api.Fault{}) {
			t.Errorf("%q: %s, %v, not %s", s, got, f, want)
		}
	}
}
