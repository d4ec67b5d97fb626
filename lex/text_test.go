package lex_test

import (
	"math/rand"
	"strings"
	"testing"

	"whetstone/api"
	"whetstone/lex"
)

// P13.2

func TestTextAndDeep(t *testing.T) {
	a, b := word(0, "a"), word(0, "b")
	for _, one := range []struct {
		text string
		deep int
		l    []lex.Tree
	}{
		{"", 0, nil},
		{"a", 0, []lex.Tree{a}},
		{"a b a", 0, []lex.Tree{a, b, a}},
		{"()", 1, []lex.Tree{row(0)}},
		{"() ()", 1, []lex.Tree{row(0), row(0)}},
		{"(a)", 1, []lex.Tree{row(0, a)}},
		{"(a b)", 1, []lex.Tree{row(0, a, b)}},
		{"(())", 2, []lex.Tree{row(0, row(0))}},
		{"(() a) b", 2, []lex.Tree{row(0, row(0), a), b}},
		{"a (b (a) b) a", 2, []lex.Tree{a, row(0, b, row(0, a), b), a}},
		{"((a) ((b))) (a)", 3, []lex.Tree{row(0, row(0, a), row(0, row(0, b))), row(0, a)}},
		{"(a) ((b) ())", 2, []lex.Tree{row(0, a), row(0, row(0, b), row(0))}},
	} {
		texts(t, one.text, one.l...)
		deeps(t, one.deep, one.l...)
	}
}

func TestAWordIsToldAsItIs(t *testing.T) {
	for _, s := range []string{"A", "a b", "(", ")", "(a", "\n", " ", "\x00", "\xff", "é", "true", strings.Repeat("a", 300000)} {
		texts(t, s, word(0, s))
		texts(t, s+" "+s, word(0, s), word(9, s))
		texts(t, "("+s+" ())", row(0, word(0, s), row(0)))
		deeps(t, 0, word(0, s))
	}
	texts(t, " ", word(0, ""), word(0, ""))
	texts(t, "( )  ()", row(0, word(0, ""), word(0, "")), word(0, ""), row(0))
}

// A word has no Kids, a row no Word: what stands there all the same is not asked. Nor are places.
func TestOnlyRowTellsWhatATreeIs(t *testing.T) {
	odd := lex.Tree{Word: "a", Kids: []lex.Tree{row(0, row(0))}}
	texts(t, "a", odd)
	deeps(t, 0, odd)
	odd.Row = true
	texts(t, "((()))", odd)
	deeps(t, 3, odd)
	texts(t, "a (b)", word(-5, "a"), row(1<<40, word(-1<<40, "b")))
}

func TestTextAndDeepByChance(t *testing.T) {
	r := rand.New(rand.NewSource(4))
	for range 5000 {
		l := someTrees(r, r.Intn(30))
		texts(t, textOf(l...), l...)
		deeps(t, deepOf(l...), l...)
	}
}

func TestHowDeepParsedTextsAre(t *testing.T) {
	for _, depth := range []int{0, 1, 2, 399, 400} {
		l, _, e := lex.Parse(brackets(depth, depth) + "(a)")
		if e != api.OK {
			t.Fatal(e)
		}
		deeps(t, max(1, depth), l...)
	}
	deeps(t, 402, within(400, row(0), row(0)))
}

// P13.3

func TestWhatIsToldIsParsedAgain(t *testing.T) {
	r := rand.New(rand.NewSource(5))
	for range 10000 {
		again(t, someText(r, r.Intn(60), rightPieces()...))
	}
	again(t, strings.Repeat(brackets(400, 400), 163))
	again(t, strings.Repeat("()", 1<<16))
	again(t, strings.Repeat("a()", 43690))
	again(t, "("+strings.Repeat(" \na", 43690)+")")
}

// again fails, unless what a text tells, told as a text, is parsed to the same again, and is not too long.
func again(t *testing.T, s string) {
	t.Helper()
	l, _, e := lex.Parse(s)
	if e != api.OK {
		return
	}
	text := lex.Text(l...)
	back, at, e := lex.Parse(text)
	if !alikeTrees(back, l) || at != 0 || e != api.OK || lex.Text(back...) != text {
		t.Fatal(shown(s), "is told as", shown(text), "and parsed again as", shown(lex.Text(back...)), at, e)
	}
	if len(text) > 2*len(s) {
		t.Fatal(shown(s), "is told as", shown(text))
	}
}
