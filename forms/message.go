package forms

import (
	"strings"
	"unicode/utf8"

	"copyist/api"
	"copyist/heap"
	"copyist/lists"
	"copyist/names"
	"copyist/show"
)

// peculiar is what the message of a condition without words of its own begins with.
const peculiar = "peculiar error"

// Message returns a signal as a text for people.
func Message(h *heap.Heap, t *names.Table, s api.Signal) (string, api.Errno) {
	if !valid(h, t) {
		return "", api.ErrNil
	}
	// What is not a proper list has no elements.
	data, _ := lists.Slice(h, s.Data)
	var b strings.Builder
	front, data := opening(h, t, s.Cond, data)
	b.WriteString(front)
	length := utf8.RuneCountInString(front)
	separator := ": "
	for _, x := range data {
		text, err := show.Text(h, t, x, true)
		if err != api.OK {
			return "", err
		}
		length += len(separator) + utf8.RuneCountInString(text)
		if length > api.MaxChars {
			return "", api.ErrLong
		}
		b.WriteString(separator + text)
		separator = ", "
	}
	return b.String(), api.OK
}

// opening returns what the message of a condition begins with, and the data that follow.
func opening(h *heap.Heap, t *names.Table, cond api.Word, data []api.Word) (string, []api.Word) {
	if cond.Kind != api.KindSym {
		return peculiar, data
	}
	if len(data) > 0 && (cond.N == api.SymError || cond.N == api.SymUserError) {
		if s, err := h.TextOf(data[0]); err == api.OK {
			return s, data[1:]
		}
	}
	if fixed(cond.N) {
		return phrases()[cond.N], data
	}
	if s, err := h.TextOf(property(t, cond.N, "error-message")); err == api.OK {
		return s, data
	}
	return peculiar, data
}

// phrases returns the words of the conditions with fixed numbers.
func phrases() map[int]string {
	return map[int]string{
		api.SymError:           "error",
		api.SymQuit:            "Quit",
		api.SymVoidVariable:    "Symbol's value as variable is void",
		api.SymVoidFunction:    "Symbol's function definition is void",
		api.SymWrongType:       "Wrong type argument",
		api.SymWrongNumber:     "Wrong number of arguments",
		api.SymOutOfRange:      "Args out of range",
		api.SymArith:           "Arithmetic error",
		api.SymOverflow:        "Arithmetic overflow error",
		api.SymSetConst:        "Attempt to set a constant symbol",
		api.SymNoCatch:         "No catch for tag",
		api.SymInvalidFunction: "Invalid function",
		api.SymReadSyntax:      "Invalid read syntax",
		api.SymEndOfFile:       "End of file during parsing",
		api.SymCircular:        "List contains a loop",
		api.SymNesting:         "Lisp nesting exceeds",
		api.SymMemory:          "Memory exhausted",
		api.SymTextReadOnly:    "Text is read-only",
		api.SymBufferStart:     "Beginning of buffer",
		api.SymBufferEnd:       "End of buffer",
		api.SymSearchFailed:    "Search failed",
		api.SymInvalidRegexp:   "Invalid regexp",
		api.SymUserError:       "user error",
		api.SymBufferReadOnly:  "Buffer is read-only",
		api.SymCyclicFunction:  "Symbol's chain of function indirections contains a loop",
	}
}
