package lex

import "strings"

// through goes through trees in the order of their text, and does what is to be done where a row begins, at a word, and
// where a row ends. What is ahead stands in a row, not in nested calls, so that trees of any depth are taken.
func through(l []Tree, begin func(), word func(string), end func()) {
	ahead := [][]Tree{l}
	for {
		last := len(ahead) - 1
		switch {
		case len(ahead[last]) > 0:
			tree := ahead[last][0]
			ahead[last] = ahead[last][1:]
			if !tree.Row {
				word(tree.Word)
				continue
			}
			begin()
			ahead = append(ahead, tree.Kids)
		case last > 0:
			ahead = ahead[:last]
			end()
		default:
			return
		}
	}
}

// teller writes a text.
type teller struct {
	strings.Builder
	behind bool // whether a tree stands ahead in the same row
}

func (t *teller) begin() {
	t.word("(")
	t.behind = false
}

func (t *teller) word(s string) {
	if t.behind {
		t.WriteByte(' ')
	}
	t.WriteString(s)
	t.behind = true
}

func (t *teller) end() {
	t.WriteByte(')')
	t.behind = true
}
