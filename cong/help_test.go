package cong_test

import (
	"math/rand"
	"slices"
	"testing"

	"whetstone/api"
	"whetstone/cong"
	"whetstone/num"
	"whetstone/term"
)

const (
	full   = 1<<32 - 1 // the greatest digit that there is
	noKind = 15        // the first kind of terms that there is not
	most   = 1<<63 - 1 // the greatest place that there is
)

// Terms.

func kids(kind api.TermKind, l ...api.Term) api.Term { return api.Term{Kind: kind, Kids: l} }
func name(s string) api.Term                         { return api.Term{Kind: api.TermVar, Name: s} }
func number(n int64) api.Term                        { return api.Term{Kind: api.TermNum, Num: num.Of(n)} }
func yes() api.Term                                  { return kids(api.TermTrue) }
func add(l ...api.Term) api.Term                     { return kids(api.TermAdd, l...) }
func equals(l ...api.Term) api.Term                  { return kids(api.TermEq, l...) }
func below(l ...api.Term) api.Term                   { return kids(api.TermLe, l...) }
func not(l ...api.Term) api.Term                     { return kids(api.TermNot, l...) }
func and(l ...api.Term) api.Term                     { return kids(api.TermAnd, l...) }
func or(l ...api.Term) api.Term                      { return kids(api.TermOr, l...) }
func iff(l ...api.Term) api.Term                     { return kids(api.TermIff, l...) }
func app(f string, l ...api.Term) api.Term           { return api.Term{Kind: api.TermApp, Name: f, Kids: l} }

// laden is t with what most kinds do not name.
func laden(t api.Term) api.Term {
	if t.Name == "" {
		t.Name = "laden"
	}
	if len(t.Num.Digits) == 0 {
		t.Num = api.Int{Neg: true, Digits: []uint32{5, full, 0}}
	}
	return t
}

// wide is an and of so many parts, itself among them.
func wide(size int) api.Term {
	return and(slices.Repeat([]api.Term{yes()}, size-1)...)
}

// deep is inner within so many functions.
func deep(depth int, f string, inner api.Term) api.Term {
	for range depth {
		inner = app(f, inner)
	}
	return inner
}

func sameInt(a, b api.Int) bool { return a.Neg == b.Neg && slices.Equal(a.Digits, b.Digits) }
func same(a, b api.Term) bool {
	return a.Kind == b.Kind && a.Name == b.Name && sameInt(a.Num, b.Num) && slices.EqualFunc(a.Kids, b.Kids, same)
}

// short is what is told of a term where it is not as it should be.
func short(t api.Term) string {
	key := term.Key(t)
	return key[:min(len(key), 600)]
}

func shorts(l ...api.Term) string {
	text := ""
	for _, t := range l {
		text += short(t) + "; "
	}
	return text
}

// holds fails, unless a term and an error are what they should be.
func holds(t *testing.T, got api.Term, e api.Errno, want api.Term, wantE api.Errno, what ...any) {
	t.Helper()
	if e != wantE || !same(got, want) {
		t.Fatal(what, ":", e, "is not", wantE, ":", short(got), "is not", short(want))
	}
	if e != api.OK && (got.Kids != nil || got.Num.Digits != nil) {
		t.Fatal(what, ": lists beside an error")
	}
}

// The world in which facts stand: n, m, late are numbers, p, q truths, l, k, turned lists, b, c boxes, e of the data
// without a name, bare of one without constructors; odd is of no sort.

func world() []api.Data {
	return []api.Data{
		{Name: "list", Cons: []api.Con{{Name: "NIL"}, {Name: "CONS", Fields: []string{"int", "list"}}, {Name: "CONS", Fields: []string{"bool", "bool", "bool"}}}},
		{Name: "box", Cons: []api.Con{{Name: "BOX", Fields: []string{"bool", "list", "", "box"}}, {Name: "ODD", Fields: []string{"odd", "none", "bool", "int"}}, {Name: "NIL", Fields: []string{"int"}}, {Name: "A.1", Fields: []string{"bool"}}}},
		{Name: "", Cons: []api.Con{{Name: "E", Fields: []string{"int", ""}}, {Name: "", Fields: []string{"bool"}}}},
		{Name: "int", Cons: []api.Con{{Name: "INT", Fields: []string{"bool"}}}},
		{Name: "bool", Cons: []api.Con{{Name: "BOOL", Fields: []string{"int"}}}},
		{Name: "many", Cons: []api.Con{{Name: "MANY", Fields: slices.Repeat([]string{"int"}, 12)}, {Name: "tag", Fields: []string{"list"}}}},
		{Name: "list", Cons: []api.Con{{Name: "LATE", Fields: []string{"bool", "bare"}}, {Name: "BOX", Fields: []string{"int"}}}},
		{Name: "bare"},
	}
}

func scope() []api.Sorted {
	return []api.Sorted{
		{Name: "late", Sort: "list"}, {Name: "turned", Sort: "int"}, {Name: "n", Sort: "int"}, {Name: "m", Sort: "int"}, {Name: "p", Sort: "bool"}, {Name: "q", Sort: "bool"},
		{Name: "l", Sort: "list"}, {Name: "k", Sort: "list"}, {Name: "b", Sort: "box"}, {Name: "c", Sort: "box"}, {Name: "e", Sort: ""}, {Name: "d", Sort: ""},
		{Name: "many", Sort: "many"}, {Name: "bare", Sort: "bare"}, {Name: "odd", Sort: "odd"}, {Name: "late", Sort: "int"}, {Name: "turned", Sort: "list"},
	}
}

// functions are names of such as there are in the world, and of such as there are not.
func functions() []string {
	return []string{
		"tag", "CONS.0", "CONS.1", "CONS.2", "NIL.0", "BOX.0", "BOX.1", "BOX.2", "BOX.3", "BOX.4", "ODD.0", "ODD.1", "ODD.2", "ODD.3", "A.1.0", "A.1", "E.0", "E.1", ".0", ".1",
		"INT.0", "BOOL.0", "MANY.0", "MANY.9", "MANY.10", "tag.0", "LATE.0", "LATE.1", "", "CONS", "CONS.", "Tag", "tag ", "CONS.00", "CONS.-1", "list", "CONS.a",
	}
}

// apply applies in the world, along facts.
func apply(at int, f string, facts ...api.Term) (api.Term, api.Errno) {
	return cong.Apply(world(), scope(), facts, at, f)
}

// Random ones.

// pick is one of them.
func pick[T any](r *rand.Rand, l ...T) T { return l[r.Intn(len(l))] }

// someSide is of a sort, most often of a data's, or of none.
func someSide(r *rand.Rand, size int) api.Term {
	t := pick(r, name("l"), name("k"), name("turned"), name("b"), name("c"), name("e"), name("d"), name("many"), name("bare"))
	switch r.Intn(12) {
	case 0:
		t = pick(r, name("n"), number(3), name("p"), yes(), add(name("n"), number(1)), add(), name("late"))
	case 1:
		t = pick(r, name("none"), name("odd"), api.Term{}, equals(name("l")), kids(noKind), kids(api.TermKappa), equals(name("p"), name("p")), add(name("l")))
	}
	for range r.Intn(size) {
		if t = app(pick(r, functions()[:26]...), t); r.Intn(3) > 0 {
			t = pick(r, app("CONS.1", name("l")), app("BOX.3", name("b")), app("BOX.1", name("c")), app("E.1", name("e")))
		}
	}
	if r.Intn(16) == 0 {
		return laden(t)
	}
	return t
}

// someFact is an edge, most often.
func someFact(r *rand.Rand, sides ...api.Term) api.Term {
	a, b := pick(r, sides...), pick(r, sides...)
	switch r.Intn(16) {
	case 0:
		return pick(r, not(equals(a, b)), and(equals(a, b)), below(a, b), iff(a, b), app("tag", equals(a, b)), kids(noKind, a, b), yes(), a, api.Term{})
	case 1:
		return pick(r, equals(), equals(a), equals(a, b, a))
	case 2:
		return laden(equals(a, b))
	}
	return equals(a, b)
}
