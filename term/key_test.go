package term_test

import (
	"math/rand"
	"slices"
	"strconv"
	"strings"
	"testing"

	"whetstone/api"
	"whetstone/num"
	"whetstone/term"
)

// P4.5

// keyed are terms, and their Keys written out.
func keyed() map[string]api.Term {
	x := name("x")
	return map[string]api.Term{
		"1 1:x  0;": x, "1 0:  0;": name(""), "0 0:  0;": {}, "255 0:  0;": {Kind: 255}, "2 0:  0;": number(0), "2 0: 7. 0;": number(7), "2 0: -7. 0;": number(-7), "2 0: 5.1. 0;": {Kind: api.TermNum, Num: num.Of(1000000005)},
		"2 0: -0.0.1. 0;": {Kind: api.TermNum, Num: num.Neg(num.Mul(num.Of(api.Base), num.Of(api.Base)))}, "3 0:  0;": truth(), "4 0:  0;": kids(api.TermFalse), "5 0:  2;1 1:x  0;2 0: 1. 0;": add(x, number(1)), "5 0:  0;": add(),
		"6 0: 3. 1;1 1:x  0;": scaled(3, x), "7 3:tag  1;1 1:l  0;": app("tag", name("l")), "8 0:  2;1 1:x  0;1 1:y  0;": equals(x, name("y")), "9 0:  2;1 1:x  0;1 1:x  0;": below(x, x), "10 0:  1;3 0:  0;": not(truth()),
		"11 0:  0;": and(), "12 0:  1;3 0:  0;": kids(api.TermOr, truth()), "13 0:  2;3 0:  0;4 0:  0;": kids(api.TermIff, truth(), kids(api.TermFalse)), "14 5:below  1;1 1:x  0;": kappa("below", x),
		// Digits that are not right, and a sign where no digits are.
		"2 0: - 0;": {Kind: api.TermNum, Num: api.Int{Neg: true}}, "2 0: 0. 0;": {Kind: api.TermNum, Num: api.Int{Digits: []uint32{0}}}, "2 0: 0.0. 0;": {Kind: api.TermNum, Num: api.Int{Digits: []uint32{0, 0}}},
		"2 0: 1000000000. 0;": {Kind: api.TermNum, Num: api.Int{Digits: []uint32{api.Base}}}, "2 0: -4294967295.7.0. 0;": {Kind: api.TermNum, Num: api.Int{Neg: true, Digits: []uint32{full, 7, 0}}},
		// Parts that the kind does not name.
		"1 1:x -3. 1;11 1:k  0;": {Kind: api.TermVar, Name: "x", Num: num.Of(-3), Kids: []api.Term{{Kind: api.TermAnd, Name: "k"}}}, "15 0:  2;0 0:  0;3 0:  0;": kids(noKind, api.Term{}, truth()),
		// Names of all bytes; how many they are is counted.
		"1 3: 0;  0;": name(" 0;"), "1 2:é  0;": name("é"), "1 1:\xff  0;": name("\xff"), "1 1:\x00  0;": name("\x00"), "1 9:1 1:x  0;  0;": name("1 1:x  0;"), "1 12:twelve bytes  0;": name("twelve bytes"), "1 1::  0;": name(":"), "1 2:\n\n  0;": name("\n\n"),
	}
}

func TestKeyOfEachKind(t *testing.T) {
	for key, a := range keyed() {
		if got := term.Key(a); got != key {
			t.Errorf("%q %q", got, key)
		}
		got, ok := term.Of(key)
		if !ok || !same(got, a) {
			t.Errorf("%q %v%s", key, ok, short(got))
		}
	}
	for kind := range 256 {
		key := strconv.Itoa(kind) + " 1:x -7. 1;3 0:  0;"
		a := api.Term{Kind: api.TermKind(kind), Name: "x", Num: num.Of(-7), Kids: []api.Term{truth()}}
		if got, ok := term.Of(key); term.Key(a) != key || !ok || !same(got, a) {
			t.Error(key, ok)
		}
	}
}

// key is Key in the words of the document.
func key(t api.Term) string {
	text := strconv.Itoa(int(t.Kind)) + " " + strconv.Itoa(len(t.Name)) + ":" + t.Name + " "
	if t.Num.Neg {
		text += "-"
	}
	for _, d := range t.Num.Digits {
		text += strconv.Itoa(int(d)) + "."
	}
	text += " " + strconv.Itoa(len(t.Kids)) + ";"
	for _, kid := range t.Kids {
		text += key(kid)
	}
	return text
}

func TestOfTakesBackWhatKeyTells(t *testing.T) {
	for _, a := range someTerms(10, 2000) {
		text := term.Key(a)
		back, ok := term.Of(text)
		if text != key(a) || !ok || !same(back, a) {
			t.Fatalf("%q %v%s is not%s", text, ok, short(back), short(a))
		}
	}
}

func TestTwoTermsHaveOneKeyJustIfTheyAreTheSame(t *testing.T) {
	all := someTerms(11, 300)
	all = append(all, name("x"), name("y"), add(name("x")), add(name("x"), name("y")), add(name("x"), add(name("y"))), add(add(name("x")), name("y")), add(add(name("x"), name("y"))), and(add(), add()), and(add(add())))
	for _, wrong := range wrongNumbers() {
		all = append(all, api.Term{Kind: api.TermNum, Num: wrong}, api.Term{Kind: api.TermVar, Num: wrong})
	}
	for i, a := range all {
		for _, b := range all[:i] {
			if (term.Key(a) == term.Key(b)) != same(a, b) {
				t.Fatal(short(a), short(b))
			}
		}
	}
}

func TestOfTakesNoOtherTexts(t *testing.T) {
	for _, s := range []string{
		"", " ", "x", "1", "1 ", "1 1", "1 1:", "1 1:x", "1 1:x ", "1 1:x  ", "1 1:x  0", " 1 1:x  0;", "1 1:x  0; ", "1 1:x  0;\n", "1 1:x  0;1 1:x  0;", "1 1:x  0;0", "1 1:x   0;", "1 1:x 0;", "1  1:x  0;", "1 1 :x  0;", "1 1: x  0;", "1 1:x  0:", "1 1;x  0;", "1,1:x  0;",
		"256 0:  0;", "1000 0:  0;", "-1 0:  0;", "+1 0:  0;", "01 0:  0;", "00 0:  0;", "a 0:  0;", " 0:  0;", "1. 0:  0;", "١ 0:  0;", "0x1 0:  0;", "1_0 0:  0;", "18446744073709551617 0:  0;", // no kind
		"1 2:x  0;", "1 0:x  0;", "1 01:x  0;", "1 00:  0;", "1 :  0;", "1 -0:  0;", "1 -1:x  0;", "1 +1:x  0;", "1 1:é  0;", "1 3:é  0;", "1 9:x  0;", "1 99999999999999999999:x  0;", "1 9223372036854775807:x  0;", "1 4611686018427387903:x  0;", "1 18446744073709551617:x  0;", // no length
		"2 0: 7 0;", "2 0: 07. 0;", "2 0: 00. 0;", "2 0: . 0;", "2 0: -. 0;", "2 0: --7. 0;", "2 0: +7. 0;", "2 0: 7.. 0;", "2 0: .7. 0;", "2 0: 7.-1. 0;", "2 0: 4294967296. 0;", "2 0: 18446744073709551617. 0;", "2 0: 7.8 0;", "2 0: 7. 8. 0;", "2 0: a. 0;", "2 0: 7,8. 0;", "2 0: - -7. 0;", "2 0: 7.-", "2 0: 7", "2 0: 7.", "2 0: -", // no digits
		"5 0:  1;", "5 0:  2;1 1:x  0;", "5 0:  1;1 1:x  0;1 1:x  0;", "5 0:  0;1 1:x  0;", "5 0:  01;1 1:x  0;", "5 0:  00;", "5 0:  ;", "5 0:  -0;", "5 0:  +1;1 1:x  0;", "5 0:  a;", "5 0:  1;1 1:x  1;", "5 0:  1;x", "5 0:  1;1 1:x  0", "5 0:  2;5 0:  1;1 1:x  0;", "5 0:  1;5 0:  1;5 0:  1;", // no kids
		"5 0:  99999999999999999999;", "5 0:  4611686018427387903;", "5 0:  9223372036854775807;1 1:x  0;", "5 0:  18446744073709551617;1 1:x  0;", "5 0:  2147483647;1 1:x  0;", "5 0:  " + strings.Repeat("9", 5000) + ";",
	} {
		if got, ok := term.Of(s); ok || !same(got, api.Term{}) {
			t.Errorf("%q %v%s", s, ok, short(got))
		}
	}
}

// Each text that is a Key with one byte more, less, or another one, is taken just where it is the Key of what is told.
func TestOfOfTextsThatAreNearlyKeys(t *testing.T) {
	taken := 0
	try := func(s string) {
		got, ok := term.Of(s)
		if ok && term.Key(got) != s || !ok && !same(got, api.Term{}) {
			t.Fatalf("%q %v%s", s, ok, short(got))
		}
		if ok {
			taken++
		}
	}
	var keys []string
	for s := range keyed() {
		keys = append(keys, s)
	}
	slices.Sort(keys)
	for _, s := range keys {
		for i := range len(s) + 1 {
			try(s[:i])
			for _, sign := range []string{"0", "1", "2", "9", " ", ":", ";", ".", "-", "+", "x", "\x00", "\xff"} {
				try(s[:i] + sign + s[i:])
				if i < len(s) {
					try(s[:i] + sign + s[i+1:])
				}
			}
			if i < len(s) {
				try(s[:i] + s[i+1:])
			}
		}
	}
	r := rand.New(rand.NewSource(12))
	for range 3000 {
		s, other := keys[r.Intn(len(keys))], keys[r.Intn(len(keys))]
		try(s + other)
		try(s[:r.Intn(len(s))] + other[r.Intn(len(other)):])
	}
	if taken < 1000 {
		t.Error(taken)
	}
}

// A text that names more kids than it can have makes no room for them, however often it does so.
func TestOfOfTextsThatNameManyKids(t *testing.T) {
	for _, many := range []string{"1000000", "100000", "2", "99999"} {
		s := strings.Repeat("5 0:  "+many+";", 100000)
		if _, ok := term.Of(s); ok {
			t.Error(many)
		}
	}
	s := strings.Repeat("5 0:  2;", 100000) + strings.Repeat("5 0:  0;", 100001)
	if got, ok := term.Of(s); !ok || term.Size(got) != 200001 {
		t.Error(ok)
	}
}
