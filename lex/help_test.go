package lex_test

import (
	"math/rand"
	"slices"
	"strconv"
	"strings"
	"testing"

	"whetstone/api"
	"whetstone/lex"
)

// signs are those of words, written out one by one.
const signs = "abcdefghijklmnopqrstuvwxyz0123456789_-.+*/=<>"

func word(at int, s string) lex.Tree           { return lex.Tree{Word: s, At: at} }
func row(at int, kids ...lex.Tree) lex.Tree    { return lex.Tree{Row: true, Kids: kids, At: at} }
func sameTrees(a, b []lex.Tree) bool           { return slices.EqualFunc(a, b, same) }
func same(a, b lex.Tree) bool                  { return a.At == b.At && alike(a, b) && sameTrees(a.Kids, b.Kids) }
func alikeTrees(a, b []lex.Tree) bool          { return slices.EqualFunc(a, b, alike) }
func brackets(open, close int) string          { return strings.Repeat("(", open) + strings.Repeat(")", close) }
func within(depth int, l ...lex.Tree) lex.Tree { return nested(depth, row(0, l...)) }

// alike tells whether trees are the same but for their places.
func alike(a, b lex.Tree) bool {
	return a.Word == b.Word && a.Row == b.Row && alikeTrees(a.Kids, b.Kids)
}

// nested is inner within so many rows.
func nested(depth int, inner lex.Tree) lex.Tree {
	for range depth {
		inner = row(0, inner)
	}
	return inner
}

// shown is what is told of a text in a failing test.
func shown(s string) string {
	return strconv.Quote(s[:min(len(s), 200)]) + " of " + strconv.Itoa(len(s)) + " bytes"
}

// depths are how deep each byte of a text stands, its own bracket counted, of an open one; it is below 0 from the first
// bracket on that closes none.
func depths(s string) []int {
	l, depth := make([]int, len(s)), 0
	for i := range len(s) {
		switch s[i] {
		case '(':
			depth++
		case ')':
			depth--
		}
		l[i] = depth
	}
	return l
}

// firstFault is the first place at which a text is none, and the error: reckoned byte by byte, as the document has it.
func firstFault(s string) (int, api.Errno) {
	if len(s) > 262144 {
		return 0, api.ErrLong
	}
	deep := depths(s)
	for i := range len(s) {
		switch {
		case !strings.Contains(" \n()"+signs, s[i:i+1]):
			return i, api.ErrSyntax
		case s[i] == '(' && deep[i] > 400:
			return i, api.ErrLong
		case s[i] == ')' && deep[i] < 0:
			return i, api.ErrSyntax
		}
	}
	if len(s) > 0 && deep[len(s)-1] > 0 {
		return len(s), api.ErrSyntax
	}
	return 0, api.OK
}

// cut are the trees of a text without faults, which stands at that place: found by where brackets close.
func cut(s string, at int) []lex.Tree {
	var l []lex.Tree
	deep := depths(s)
	for i := 0; i < len(s); {
		switch s[i] {
		case ' ', '\n':
			i++
		case '(':
			to := i + slices.Index(deep[i:], 0)
			l = append(l, row(at+i, cut(s[i+1:to], at+i+1)...))
			i = to + 1
		default:
			to := len(s)
			if n := strings.IndexAny(s[i:], " \n()"); n >= 0 {
				to = i + n
			}
			l = append(l, word(at+i, s[i:to]))
			i = to
		}
	}
	return l
}

// textOf is the text of trees, made of the texts of their kids.
func textOf(l ...lex.Tree) string {
	var texts []string
	for _, a := range l {
		if a.Row {
			texts = append(texts, "("+textOf(a.Kids...)+")")
		} else {
			texts = append(texts, a.Word)
		}
	}
	return strings.Join(texts, " ")
}

// deepOf is how many rows stand within each other in trees.
func deepOf(l ...lex.Tree) int {
	most := 0
	for _, a := range l {
		if a.Row {
			most = max(most, 1+deepOf(a.Kids...))
		}
	}
	return most
}

// parses fails, unless a text tells these trees, or that error at that place and none.
func parses(t *testing.T, s string, want []lex.Tree, wantAt int, wantE api.Errno) {
	t.Helper()
	got, at, e := lex.Parse(s)
	if !sameTrees(got, want) || at != wantAt || e != wantE {
		t.Fatal("Parse of", shown(s), "is", shown(textOf(got...)), at, e, "and not", shown(textOf(want...)), wantAt, wantE)
	}
}

// texts fails, unless trees have that text.
func texts(t *testing.T, want string, l ...lex.Tree) {
	t.Helper()
	if got := lex.Text(l...); got != want {
		t.Fatal("Text is", shown(got), "and not", shown(want))
	}
}

// deeps fails, unless so many rows stand within each other in trees.
func deeps(t *testing.T, want int, l ...lex.Tree) {
	t.Helper()
	if got := lex.Deep(l...); got != want {
		t.Fatal("Deep of", shown(lex.Text(l...)), "is", got, "and not", want)
	}
}

// someText is a text out of such pieces, with its brackets mostly closed.
func someText(r *rand.Rand, size int, pieces ...string) string {
	var s strings.Builder
	open := 0
	for range size {
		piece := pieces[r.Intn(len(pieces))]
		if piece == ")" && open == 0 && r.Intn(20) > 0 {
			piece = "("
		}
		open += strings.Count(piece, "(") - strings.Count(piece, ")")
		s.WriteString(piece)
	}
	if open > 0 && r.Intn(8) > 0 {
		s.WriteString(brackets(0, open))
	}
	return s.String()
}

// rightPieces are those of which texts are.
func rightPieces() []string {
	return []string{"(", "(", ")", ")", " ", "\n", "  ", "a", "z", "add", "x_1", "-17", "1/2", "<=", "->", "cons.0", "0", "9", "+", "*", "=", ">", "_", "."}
}

// someTrees are trees of all kinds, at any places, with words that no text has, too.
func someTrees(r *rand.Rand, size int) []lex.Tree {
	words := []string{"a", "add", "", "-", "A", "a b", "(", ")", "\n", "é", "\xff", "\x00"}
	var l []lex.Tree
	for size > 0 {
		part := 1 + r.Intn(size)
		size -= part
		if r.Intn(2) == 0 {
			l = append(l, row(r.Intn(99)-9, someTrees(r, part-1)...))
		} else {
			l = append(l, word(r.Intn(99)-9, words[r.Intn(len(words))]))
		}
	}
	return l
}
