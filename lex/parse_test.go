package lex_test

import (
	"math/rand"
	"strings"
	"testing"

	"whetstone/api"
	"whetstone/lex"
)

// P13.1

func TestTheExamples(t *testing.T) {
	parses(t, "(add x 1)", []lex.Tree{row(0, word(1, "add"), word(5, "x"), word(7, "1"))}, 0, api.OK)
	parses(t, "(a", nil, 2, api.ErrSyntax)
	parses(t, "a)", nil, 1, api.ErrSyntax)
	parses(t, "A", nil, 0, api.ErrSyntax)
}

func TestTexts(t *testing.T) {
	for _, one := range []struct {
		s    string
		want []lex.Tree
	}{
		{"", nil},
		{" \n\n ", nil},
		{"a", []lex.Tree{word(0, "a")}},
		{"\n a1 \n", []lex.Tree{word(2, "a1")}},
		{"a b\nc", []lex.Tree{word(0, "a"), word(2, "b"), word(4, "c")}},
		{"()", []lex.Tree{row(0)}},
		{"( \n)", []lex.Tree{row(0)}},
		{" ()()", []lex.Tree{row(1), row(3)}},
		{"(())", []lex.Tree{row(0, row(1))}},
		{"a(b)c", []lex.Tree{word(0, "a"), row(1, word(2, "b")), word(4, "c")}},
		{"((a)b(c d))", []lex.Tree{row(0, row(1, word(2, "a")), word(4, "b"), row(5, word(6, "c"), word(8, "d")))}},
		{"(a (b\n(c)) d) e", []lex.Tree{row(0, word(1, "a"), row(3, word(4, "b"), row(6, word(7, "c"))), word(11, "d")), word(14, "e")}},
		{signs, []lex.Tree{word(0, signs)}},
		{"-1 1/2 <= -> cons.0 a-b", []lex.Tree{word(0, "-1"), word(3, "1/2"), word(7, "<="), word(10, "->"), word(13, "cons.0"), word(20, "a-b")}},
	} {
		parses(t, one.s, one.want, 0, api.OK)
	}
}

func TestEachByte(t *testing.T) {
	for b := range 256 {
		s := string([]byte{byte(b)})
		switch {
		case b == 32 || b == 10:
			parses(t, s, nil, 0, api.OK)
			parses(t, "a"+s+"b", []lex.Tree{word(0, "a"), word(2, "b")}, 0, api.OK)
		case s == "(":
			parses(t, s, nil, 1, api.ErrSyntax)
			parses(t, "a"+s+"b", nil, 3, api.ErrSyntax)
		case s == ")":
			parses(t, s, nil, 0, api.ErrSyntax)
			parses(t, "a"+s+"b", nil, 1, api.ErrSyntax)
		case 'a' <= b && b <= 'z' || '0' <= b && b <= '9' || strings.ContainsAny("_-.+*/=<>", s):
			parses(t, s, []lex.Tree{word(0, s)}, 0, api.OK)
			parses(t, "a"+s+"b", []lex.Tree{word(0, "a"+s+"b")}, 0, api.OK)
		default:
			parses(t, s, nil, 0, api.ErrSyntax)
			parses(t, "a"+s+"b", nil, 1, api.ErrSyntax)
			parses(t, "(a "+s, nil, 3, api.ErrSyntax)
		}
	}
}

func TestTheFirstFaultCounts(t *testing.T) {
	deep := brackets(400, 0)
	for _, one := range []struct {
		s  string
		at int
		e  api.Errno
	}{
		{"(A", 1, api.ErrSyntax},
		{"(", 1, api.ErrSyntax},
		{"(a \n", 4, api.ErrSyntax},
		{"((a)", 4, api.ErrSyntax},
		{") A", 0, api.ErrSyntax},
		{"A )", 0, api.ErrSyntax},
		{"(a)) A", 3, api.ErrSyntax},
		{"(a) A )", 4, api.ErrSyntax},
		{"é", 0, api.ErrSyntax},
		{"a\t", 1, api.ErrSyntax},
		{"a\r\n", 1, api.ErrSyntax},
		{deep, 400, api.ErrSyntax},
		{deep + "(", 400, api.ErrLong},
		{deep + "((", 400, api.ErrLong},
		{deep + "(A", 400, api.ErrLong},
		{deep + "A(", 400, api.ErrSyntax},
		{deep + "a (", 402, api.ErrLong},
		{"A" + deep + "(", 0, api.ErrSyntax},
		{deep + ")((", 402, api.ErrLong},
		{deep + brackets(0, 401) + deep + "(", 800, api.ErrSyntax},
		{deep + brackets(0, 400) + deep + "(", 1200, api.ErrLong},
		{deep + brackets(0, 399), 799, api.ErrSyntax},
	} {
		parses(t, one.s, nil, one.at, one.e)
	}
}

func TestDepth(t *testing.T) {
	for depth := 397; depth < 404; depth++ {
		for _, inner := range []string{"", "a", "()", "(a) b"} {
			s := strings.Repeat("(a ", depth) + inner + brackets(0, depth)
			if depth+min(1, strings.Count(inner, "(")) <= 400 {
				parses(t, s, cut(s, 0), 0, api.OK)
				continue
			}
			at, e := firstFault(s)
			parses(t, s, nil, at, e)
			if e != api.ErrLong {
				t.Fatal(depth, inner, e)
			}
		}
	}
	many := strings.Repeat(brackets(400, 400), 300)
	parses(t, many, cut(many, 0), 0, api.OK)
}

func TestLongTexts(t *testing.T) {
	const most = 262144
	for _, fill := range []string{"a", " ", "\n"} {
		s := strings.Repeat(fill, most)
		parses(t, s, cut(s, 0), 0, api.OK)
		parses(t, s+fill, nil, 0, api.ErrLong)
	}
	for _, fill := range []string{"()", "a ", "\na", "a("} {
		s := strings.Repeat(fill, most/2)
		at, e := firstFault(s)
		if e == api.OK {
			parses(t, s, cut(s, 0), 0, api.OK)
		} else {
			parses(t, s, nil, at, e)
		}
		parses(t, s+" ", nil, 0, api.ErrLong)
	}
	for _, s := range []string{"A", ")", "(", "\x00"} {
		long := s + strings.Repeat("a", most)
		parses(t, long, nil, 0, api.ErrLong)
		long = strings.Repeat("a", most-1) + s
		at, e := firstFault(long)
		parses(t, long, nil, at, e)
		if e != api.ErrSyntax || at != most-1+strings.Count(s, "(") {
			t.Fatal(shown(s), at, e)
		}
	}
	parses(t, brackets(401, 0)+strings.Repeat("a", most), nil, 0, api.ErrLong)
}

func TestTextsByChance(t *testing.T) {
	r := rand.New(rand.NewSource(1))
	wrong := append(rightPieces(), rightPieces()...)
	wrong = append(wrong, "A", "\t", "\x00", "é", "\xff", "!")
	right := 0
	for range 20000 {
		pieces := rightPieces()
		if r.Intn(4) == 0 {
			pieces = wrong
		}
		s := someText(r, r.Intn(40), pieces...)
		at, e := firstFault(s)
		if e != api.OK {
			parses(t, s, nil, at, e)
			continue
		}
		right++
		parses(t, s, cut(s, 0), 0, api.OK)
	}
	if right < 5000 || right > 19000 {
		t.Error("of one kind are too few:", right)
	}
}

func TestAnyBytes(t *testing.T) {
	r := rand.New(rand.NewSource(2))
	for range 5000 {
		b := make([]byte, r.Intn(12))
		r.Read(b)
		at, e := firstFault(string(b))
		if e == api.OK {
			parses(t, string(b), cut(string(b), 0), 0, e)
		} else {
			parses(t, string(b), nil, at, e)
		}
	}
}

func TestDeepTextsByChance(t *testing.T) {
	r := rand.New(rand.NewSource(3))
	long := 0
	for range 1000 {
		var s strings.Builder
		for range 1060 {
			s.WriteString([]string{"(", "(", "(", "a(", "(b", ")", "c)", " "}[r.Intn(8)])
		}
		at, e := firstFault(s.String())
		parses(t, s.String(), nil, at, e)
		if e == api.ErrLong {
			long++
		}
	}
	if long == 0 || long == 1000 {
		t.Error("of one kind there are none:", long)
	}
}
