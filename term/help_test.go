package term_test

import (
	"math/rand"
	"slices"
	"strings"
	"testing"

	"whetstone/api"
	"whetstone/num"
)

const (
	full   = 1<<32 - 1 // the greatest digit that there is
	noKind = 15        // the first kind that there is not
)

func kids(kind api.TermKind, l ...api.Term) api.Term { return api.Term{Kind: kind, Kids: l} }
func name(s string) api.Term                         { return api.Term{Kind: api.TermVar, Name: s} }
func number(n int64) api.Term                        { return api.Term{Kind: api.TermNum, Num: num.Of(n)} }
func truth() api.Term                                { return kids(api.TermTrue) }
func add(l ...api.Term) api.Term                     { return kids(api.TermAdd, l...) }
func and(l ...api.Term) api.Term                     { return kids(api.TermAnd, l...) }
func not(l ...api.Term) api.Term                     { return kids(api.TermNot, l...) }
func equals(l ...api.Term) api.Term                  { return kids(api.TermEq, l...) }
func below(l ...api.Term) api.Term                   { return kids(api.TermLe, l...) }
func app(f string, l ...api.Term) api.Term           { return api.Term{Kind: api.TermApp, Name: f, Kids: l} }
func kappa(k string, l ...api.Term) api.Term         { return api.Term{Kind: api.TermKappa, Name: k, Kids: l} }
func scaled(n int64, l ...api.Term) api.Term {
	return api.Term{Kind: api.TermScale, Num: num.Of(n), Kids: l}
}

// wide is an and of so many parts, itself among them.
func wide(size int) api.Term {
	t := and()
	for range size - 1 {
		t.Kids = append(t.Kids, truth())
	}
	return t
}

// deep is inner within so many nots.
func deep(depth int, inner api.Term) api.Term {
	for range depth {
		inner = not(inner)
	}
	return inner
}

// wrongNumbers are numbers that are not right.
func wrongNumbers() []api.Int {
	return []api.Int{{Neg: true}, {Neg: true, Digits: []uint32{}}, {Digits: []uint32{0}}, {Digits: []uint32{7, 0}}, {Digits: []uint32{api.Base}}, {Neg: true, Digits: []uint32{1, full}}}
}

// parts are t and the parts of its kids.
func parts(t api.Term) []api.Term {
	var l []api.Term
	var lay func(t api.Term)
	lay = func(t api.Term) {
		l = append(l, t)
		for _, kid := range t.Kids {
			lay(kid)
		}
	}
	lay(t)
	return l
}

func sameInt(a, b api.Int) bool { return a.Neg == b.Neg && slices.Equal(a.Digits, b.Digits) }

func same(a, b api.Term) bool {
	return a.Kind == b.Kind && a.Name == b.Name && sameInt(a.Num, b.Num) && slices.EqualFunc(a.Kids, b.Kids, same)
}

// short is what is told of a term where it is not as it should be.
func short(t api.Term) string {
	var text strings.Builder
	for _, part := range parts(t)[:min(30, len(parts(t)))] {
		text.WriteString(" " + string(rune('A'+part.Kind)) + part.Name)
	}
	return text.String()
}

// world are data at which something may turn: constructors of one name, names of a sort, fields of none, many fields.
func world() []api.Data {
	ints := slices.Repeat([]string{api.SortInt}, 12)
	return []api.Data{
		{Name: "list", Cons: []api.Con{{Name: "NIL"}, {Name: "CONS", Fields: []string{"int", "list"}}, {Name: "CONS", Fields: []string{"int", "list", "bool"}}}},
		{Name: "pair", Cons: []api.Con{{Name: "PAIR", Fields: []string{"list", "bool", "none", ""}}, {Name: "NIL", Fields: []string{"pair"}}, {Name: "A.1", Fields: []string{"pair", "list"}}}},
		{Name: "int", Cons: []api.Con{{Name: "INT", Fields: []string{"int"}}}},
		{Name: "bool", Cons: []api.Con{{Name: "BOOL", Fields: []string{"int"}}}},
		{Name: "many", Cons: []api.Con{{Name: "MANY", Fields: ints}}},
		{Name: "", Cons: []api.Con{{Name: "", Fields: []string{"", "int"}}}},
		{Name: "list", Cons: []api.Con{{Name: "LATE", Fields: []string{"list"}}}},
		{Name: "bare"},
	}
}

// row is a scope, with a name that comes twice, one of the data without a name, and one of no sort.
func row() []api.Sorted {
	return []api.Sorted{
		{Name: "twice", Sort: "none"}, {Name: "n", Sort: "int"}, {Name: "m", Sort: "int"}, {Name: "p", Sort: "bool"}, {Name: "l", Sort: "list"}, {Name: "k", Sort: "list"},
		{Name: "q", Sort: "pair"}, {Name: "e", Sort: ""}, {Name: "many", Sort: "many"}, {Name: "bare", Sort: "bare"}, {Name: "lost", Sort: "int"}, {Name: "twice", Sort: "list"},
		{Name: "lost", Sort: "none"}, {Name: "", Sort: "int"},
	}
}

// someNames are names of all kinds that stand in someTerm.
func someNames() []string {
	return []string{"x", "y", "z", "", "n", "p", "l", "K", "one", "two", "tag", "CONS.0", "CONS.1", "a b", "é", "7:", "\xff;"}
}

// someTerm is a term of any kind, with any kids, digits and names, of at most so many parts.
func someTerm(r *rand.Rand, size int) api.Term {
	names := someNames()
	t := api.Term{Kind: api.TermKind(r.Intn(noKind + 2)), Name: names[r.Intn(len(names))]}
	if r.Intn(3) == 0 {
		t.Kind = api.TermVar
	}
	if r.Intn(4) == 0 {
		t.Num.Neg = r.Intn(2) == 0
		for range r.Intn(4) {
			t.Num.Digits = append(t.Num.Digits, []uint32{0, 7, api.Base, full}[r.Intn(4)])
		}
	}
	for size--; size > 0; {
		kid := someTerm(r, 1+r.Intn(size))
		t.Kids = append(t.Kids, kid)
		size -= len(parts(kid))
		if r.Intn(4) == 0 {
			break
		}
	}
	return t
}

// someTerms are terms at which something may turn, and count others.
func someTerms(seed int64, count int) []api.Term {
	x := name("x")
	odd := api.Term{Kind: api.TermVar, Name: "x", Num: api.Int{Neg: true, Digits: []uint32{0, full}}, Kids: []api.Term{name("y"), kappa("K", x)}}
	l := []api.Term{{}, x, name(""), number(0), number(-5), truth(), add(), add(x, number(1)), scaled(0, x), app("tag", x), kappa("K"), odd, and(odd, odd), equals(odd, x), {Kind: 255}}
	r := rand.New(rand.NewSource(seed))
	for range count {
		l = append(l, someTerm(r, 1+r.Intn(14)))
	}
	return l
}

// holds fails, unless a term and an error are what they should be.
func holds(t *testing.T, got api.Term, e api.Errno, want api.Term, wantE api.Errno, what ...string) {
	t.Helper()
	if e != wantE || !same(got, want) {
		t.Fatalf("%v: %v, not %v:%s is not%s", what, e, wantE, short(got), short(want))
	}
}
