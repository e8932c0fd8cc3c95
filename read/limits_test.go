package read_test

import (
	"strings"
	"testing"

	"copyist/api"
	"copyist/read"
)

// opener is what opens a form, and what is behind the form.
type opener struct{ front, rear string }

func openers() []opener {
	return []opener{{"(", ")"}, {"[", "]"}, {"'", ""}, {"`", ""}, {",", ""}, {",@", ""}, {"#'", ""}, {"(a . ", ")"}}
}

// P5.1: 200 open brackets and prefixes, and one more.
func TestNesting(t *testing.T) {
	for _, x := range openers() {
		front, rear := strings.Repeat(x.front, api.MaxNest), strings.Repeat(x.rear, api.MaxNest)
		for _, atom := range []string{"a", "1", "\"b\"", "?(", "##", "\\("} {
			d := newDesk(t, 1000)
			s := front + atom + rear
			if _, end, f := read.Read(d.h, d.t, s, 0); f != (api.Fault{}) || end != len(s) {
				t.Errorf("200 times %q around %s: end %d, %v", x.front, atom, end, f)
			}
		}
		for _, y := range openers() {
			fails(t, front+" "+y.front+"a"+y.rear+rear, fault(api.ErrDepth, len(front)+1))
		}
		fails(t, front+"#a", fault(api.ErrForm, len(front)))
	}
	// A mixture.
	fails(t, strings.Repeat("(['`,,@#'", 100), fault(api.ErrDepth, 28*9+4))
}

// P5.1: what is complete is not open any more.
func TestSiblings(t *testing.T) {
	deep := strings.Repeat("(", 198) + "a" + strings.Repeat(")", 198)
	for _, x := range openers() {
		d := newDesk(t, 10000)
		s := "([" + strings.Repeat(x.front+"a"+x.rear+" ", 300) + deep + "])"
		if _, end, f := read.Read(d.h, d.t, s, 0); f != (api.Fault{}) || end != len(s) {
			t.Errorf("300 times %q: end %d, %v", x.front, end, f)
		}
		if l, f := read.All(d.h, d.t, strings.Repeat(s+"\n", 5)); f != (api.Fault{}) || len(l) != 5 {
			t.Errorf("300 times %q: %d forms, %v", x.front, len(l), f)
		}
	}
}

// P5.1: names of MaxName characters, and of one more.
func TestLongNames(t *testing.T) {
	for _, c := range []string{"a", "\u20ac", "\\(", "\\1", "."} {
		name := strings.Repeat(c, api.MaxName)
		d := newDesk(t, 10)
		w, end, f := read.Read(d.h, d.t, name, 0)
		if s, _ := d.t.Name(w.N); f != (api.Fault{}) || end != length(name) || length(s) != api.MaxName {
			t.Errorf("1000 times %q: a name of %d characters, end %d, %v", c, length(s), end, f)
		}
		fails(t, " ("+name+c+" b)", fault(api.ErrLong, 2))
		fails(t, name+c, fault(api.ErrLong, 0))
		// The name is read before it is found to be too long.
		fails(t, name+c+"\\", fault(api.ErrForm, length(name+c)+1))
	}
	fails(t, strings.Repeat("1", 5000), fault(api.ErrOver, 0))
	fails(t, strings.Repeat("1", 5000)+"x", fault(api.ErrLong, 0))
}

// P5.1: strings of MaxChars characters, and of one more.
func TestLongStrings(t *testing.T) {
	for _, c := range []string{"a", "\u20ac", "\\n", "\\x41\\"} {
		text := strings.Repeat(c, api.MaxChars)
		d := newDesk(t, 10)
		w, end, f := read.Read(d.h, d.t, "\""+text+"\\\n\"", 0)
		if s, _ := d.h.TextOf(w); f != (api.Fault{}) || end != length(text)+4 || length(s) != api.MaxChars {
			t.Errorf("65536 times %q: a string of %d characters, end %d, %v", c, length(s), end, f)
		}
		fails(t, " (a \""+text+c+"\" . . )", fault(api.ErrLong, 4))
		// The string is read before it is found to be too long.
		fails(t, "\""+text+c+"\\q\"", fault(api.ErrForm, length(text+c)+1))
		fails(t, "\""+text+c, fault(api.ErrForm, length(text+c)+1))
	}
}

// P5.1: vectors of MaxChars elements, and of one more, which cannot be created.
func TestLongVectors(t *testing.T) {
	elements := strings.Repeat("1 ", api.MaxChars)
	d := newDesk(t, 10)
	w, end, f := read.Read(d.h, d.t, "["+elements+"]", 0)
	if l, _ := d.h.VecOf(w); f != (api.Fault{}) || end != len(elements)+2 || len(l) != api.MaxChars {
		t.Errorf("a vector of %d elements, end %d, %v", len(l), end, f)
	}
	fails(t, " (["+elements+"1] #)", fault(api.ErrFull, 2))
}

// P5.1: a long list.
func TestLongLists(t *testing.T) {
	d := newDesk(t, api.MaxObjects)
	w, _, f := read.Read(d.h, d.t, "("+strings.Repeat("a ", api.MaxObjects)+")", 0)
	if f != (api.Fault{}) || d.h.Many() != api.MaxObjects || w != (api.Word{Kind: api.KindCons, N: api.MaxObjects - 1}) {
		t.Errorf("%v, %v; %d objects", w, f, d.h.Many())
	}
}

// P5.1: heaps without enough numbers. The position is that of the form that cannot
// be created, wherever its parts are; what was created before remains.
func TestFullHeap(t *testing.T) {
	for _, x := range []struct {
		text     string
		limit    int
		at       int
		contents string
	}{
		{" (a b)", 1, 1, "0: cons 1/63 1/0\n62: <a>\n63: <b>\n"},
		{"(a (b) . c)", 2, 0, "0: cons 1/63 1/0\n1: cons 2/0 1/64\n62: <a>\n63: <b>\n64: <c>\n"},
		{"(a (b c) d", 1, 3, "0: cons 1/64 1/0\n62: <a>\n63: <b>\n64: <c>\n"},
		{"'a", 1, 0, "0: cons 1/62 1/0\n62: <a>\n"},
		{" ;\n,@ (a)", 1, 3, "0: cons 1/62 1/0\n62: <a>\n"},
		{"#'a", 1, 0, "0: cons 1/62 1/0\n62: <a>\n"},
		{"'`a", 3, 0, "0: cons 1/62 1/0\n1: cons 1/4 2/0\n2: cons 2/1 1/0\n62: <a>\n"},
		{"'`a", 1, 1, "0: cons 1/62 1/0\n62: <a>\n"},
		{"(1 \"a\" \"b\" #)", 1, 7, "0: \"a\"\n"},
		{"\"a\"\"b\"", 1, 3, "0: \"a\"\n"},
		{"[[1] [2]]", 1, 5, "0: vector 0/1\n"},
		{"[[1] [2]]", 2, 0, "0: vector 0/1\n1: vector 0/2\n"},
		{"\u20ac \"\u20ac\" []", 1, 6, "0: \"\u20ac\"\n62: <\u20ac>\n"},
	} {
		d := newDesk(t, x.limit)
		if l, f := read.All(d.h, d.t, x.text); f != fault(api.ErrFull, x.at) || len(l) != 0 {
			t.Errorf("%q, %d objects: %v, %v, not at %d", x.text, x.limit, l, f, x.at)
		}
		if got := d.contents(); got != x.contents {
			t.Errorf("%q, %d objects: there is\n%snot\n%s", x.text, x.limit, got, x.contents)
		}
	}
}

// P5.1: what needs no room in a heap.
func TestFullHeapEnough(t *testing.T) {
	d := newDesk(t, 1)
	does(t)(d.h.Vec(nil))
	l, f := read.All(d.h, d.t, "a 12 ?b () ( ) ##")
	if got := d.spellAll(l); got != "<a> 12 98 <nil> <nil> <>" || f != (api.Fault{}) {
		t.Error(got, f)
	}
	// A string that is too long is that before it is too much.
	d.fails(t, " \""+strings.Repeat("a", api.MaxChars+1)+"\"", fault(api.ErrLong, 1))
	d.fails(t, " \"\"", fault(api.ErrFull, 1))
}

// P5.1: a heap without enough room for characters and elements.
func TestFullStore(t *testing.T) {
	text := "\"" + strings.Repeat("\u20ac", api.MaxChars) + "\""
	d := newDesk(t, 100)
	if l, f := read.All(d.h, d.t, strings.Repeat(text, api.MaxStore/api.MaxChars)); f != (api.Fault{}) || len(l) != 16 || d.h.Room() != 0 {
		t.Fatalf("%d strings, %v, room for %d", len(l), f, d.h.Room())
	}
	d.fails(t, "(\"\" [] \"a\")", fault(api.ErrFull, 7))
	d.fails(t, "'[\"\" 1]", fault(api.ErrFull, 1))
}

// P5.1: a table that is full.
func TestFullTable(t *testing.T) {
	d := newDesk(t, 10)
	for d.t.Many() < api.MaxSyms-2 {
		d.t.Fresh("filler")
	}
	if l, f := read.All(d.h, d.t, "a b a \\b nil '1"); f != (api.Fault{}) || d.spellAll(l) != "<a> <b> <a> <b> <nil> (<quote> 1)" {
		t.Fatal(d.spellAll(l), f)
	}
	d.fails(t, "(a c)", fault(api.ErrFull, 3))
	d.fails(t, " ##", fault(api.ErrFull, 1))
	d.fails(t, "'filler", fault(api.ErrFull, 1))
	d.fails(t, "\\1", fault(api.ErrFull, 0))
	d.fails(t, "(b "+strings.Repeat("c", api.MaxName+1), fault(api.ErrLong, 3))
}
