package lex_test

import (
	"math/rand"
	"runtime/debug"
	"slices"
	"strings"
	"testing"
	"unsafe"

	"whetstone/api"
	"whetstone/lex"
)

// R1: trees deeper than calls may be nested, and wide ones.

func TestDeepAndWideTrees(t *testing.T) {
	defer debug.SetMaxStack(debug.SetMaxStack(1 << 20))
	const many = 1000000
	texts(t, brackets(many, many), nested(many-1, row(0)))
	deeps(t, many, nested(many-1, row(0)))
	wide := slices.Repeat([]lex.Tree{row(0)}, many)
	texts(t, strings.Repeat("() ", many)[:3*many-1], wide...)
	deeps(t, 1, wide...)
	texts(t, "("+strings.Repeat("() ", many)[:3*many-1]+")", row(0, wide...))
	deeps(t, 2, row(0, wide...))
	chain := lex.Tree{}
	for range many {
		chain = row(0, word(0, "a"), chain, row(0))
	}
	deeps(t, many+1, chain)
	if got := lex.Text(chain); len(got) != 7*many {
		t.Error(shown(got))
	}
}

func TestLongTextsAreReadInOneGo(t *testing.T) {
	defer debug.SetMaxStack(debug.SetMaxStack(1 << 20))
	for range 20 {
		for _, s := range []string{brackets(400, 0) + strings.Repeat("()", 1000), strings.Repeat("(", api.MaxText), strings.Repeat(")", api.MaxText)} {
			at, e := firstFault(s)
			parses(t, s, nil, at, e)
		}
		if l, _, e := lex.Parse(strings.Repeat("a ", api.MaxText/2)); len(l) != api.MaxText/2 || e != api.OK {
			t.Fatal(len(l), e)
		}
	}
}

// R3, R4, R6

// span is the memory of a list or a text, with the room behind it.
type span struct{ from, to uintptr }

func spanOf(l []lex.Tree) span {
	from := uintptr(unsafe.Pointer(unsafe.SliceData(l)))
	return span{from, from + uintptr(cap(l))*unsafe.Sizeof(lex.Tree{})}
}

func spanOfText(s string) span {
	from := uintptr(unsafe.Pointer(unsafe.StringData(s)))
	return span{from, from + uintptr(len(s))}
}

// spans are the memories of all lists of trees.
func spans(l []lex.Tree) []span {
	var all []span
	if cap(l) > 0 {
		all = append(all, spanOf(l))
	}
	for _, a := range l {
		all = append(all, spans(a.Kids)...)
	}
	return all
}

// words are the memories of all words of trees.
func words(l []lex.Tree) []span {
	var all []span
	for _, a := range l {
		if a.Row {
			all = append(all, words(a.Kids)...)
		} else {
			all = append(all, spanOfText(a.Word))
		}
	}
	return all
}

// apart tells whether no two of these memories share a byte.
func apart(all ...span) bool {
	slices.SortFunc(all, func(a, b span) int { return int(int64(a.from) - int64(b.from)) })
	for i := 1; i < len(all); i++ {
		if all[i].from < all[i-1].to {
			return false
		}
	}
	return true
}

func TestWhatIsParsedIsNewMemory(t *testing.T) {
	r := rand.New(rand.NewSource(6))
	for range 2000 {
		s := someText(r, r.Intn(60), rightPieces()...)
		was := strings.Clone(s)
		first, at, e := lex.Parse(s)
		second, atAgain, eAgain := lex.Parse(s)
		if !sameTrees(first, second) || at != atAgain || e != eAgain || s != was {
			t.Fatal("told otherwise the second time:", shown(s))
		}
		if !apart(append(spans(first), spans(second)...)...) {
			t.Fatal("two lists share memory:", shown(s))
		}
		for _, w := range append(words(first), words(second)...) {
			if !apart(w, spanOfText(s)) {
				t.Fatal("a word keeps its text:", shown(s))
			}
		}
	}
}

// roomy are trees in memory of their own, with room behind all lists: a call that appends to them would be found out.
func roomy(l []lex.Tree) []lex.Tree {
	var own []lex.Tree
	for _, a := range l {
		a.Kids = roomy(a.Kids)
		own = append(own, a)
	}
	own = append(own, word(7, "room"), word(7, "room"))
	return own[:len(own)-2]
}

// untouched tells whether roomy trees are as they were, with the room behind their lists.
func untouched(l, was []lex.Tree) bool {
	room := l[len(l) : len(l)+2]
	if !sameTrees(room, []lex.Tree{word(7, "room"), word(7, "room")}) {
		return false
	}
	return slices.EqualFunc(l, was, func(a, b lex.Tree) bool {
		return a.Word == b.Word && a.Row == b.Row && a.At == b.At && untouched(a.Kids, b.Kids)
	})
}

func TestNoTreeIsChanged(t *testing.T) {
	r := rand.New(rand.NewSource(7))
	for range 2000 {
		l := someTrees(r, r.Intn(30))
		own := roomy(l)
		text, deep := lex.Text(own...), lex.Deep(own...)
		if text != lex.Text(l...) || text != lex.Text(own...) || deep != lex.Deep(l...) || deep != lex.Deep(own...) {
			t.Fatal("told otherwise the second time:", shown(textOf(l...)))
		}
		if !untouched(own, l) {
			t.Fatal("a tree is changed:", shown(textOf(l...)))
		}
		for _, w := range words(own) {
			if !apart(w, spanOfText(text)) {
				t.Fatal("a text is a tree's own word:", shown(text))
			}
		}
	}
}

func TestEmptyAndNilListsAreOne(t *testing.T) {
	for _, none := range [][]lex.Tree{nil, {}} {
		texts(t, "", none...)
		deeps(t, 0, none...)
		texts(t, "() (()) a", lex.Tree{Row: true, Kids: none}, row(0, lex.Tree{Row: true, Kids: none}), lex.Tree{Word: "a", Kids: none})
		deeps(t, 2, lex.Tree{Row: true, Kids: none}, row(0, lex.Tree{Row: true, Kids: none}))
	}
}
