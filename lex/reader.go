package lex

import (
	"strings"

	"whetstone/api"
)

// marks are the signs of words that are no letters and no digits.
const marks = "_-.+*/=<>"

// reader reads a text from its first byte on.
type reader struct {
	place
	open []Tree // rows that are open, each one within the one ahead of it; the first one is the text, which has no brackets
}

func readerOf(s string) *reader {
	return &reader{place{text: s}, []Tree{{Row: true}}}
}

// trees reads all that there is.
func (r *reader) trees() []Tree {
	for !r.over() {
		switch r.here() {
		case ' ', '\n':
			r.onward()
		case '(':
			r.begin()
		case ')':
			r.end()
		default:
			r.word()
		}
	}
	r.need(len(r.open) == 1, api.ErrSyntax)
	return r.open[0].Kids
}

func (r *reader) begin() {
	r.need(len(r.open) <= api.MaxDepth, api.ErrLong)
	r.open = append(r.open, Tree{Row: true, At: r.at})
	r.onward()
}

func (r *reader) end() {
	last := len(r.open) - 1
	r.need(last > 0, api.ErrSyntax)
	row := r.open[last]
	r.open = r.open[:last]
	r.put(row)
	r.onward()
}

// word reads signs, of which there must be one. The word is new memory, so that it does not keep the text.
func (r *reader) word() {
	at := r.at
	signs := r.past(func(b byte) bool {
		return 'a' <= b && b <= 'z' || '0' <= b && b <= '9' || strings.IndexByte(marks, b) >= 0
	})
	r.need(signs != "", api.ErrSyntax)
	r.put(Tree{Word: strings.Clone(signs), At: at})
}

// put lays trees into the row that was opened last.
func (r *reader) put(l ...Tree) {
	row := &r.open[len(r.open)-1]
	row.Kids = append(row.Kids, l...)
}
