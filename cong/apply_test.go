package cong_test

import (
	"slices"
	"testing"

	"whetstone/api"
	"whetstone/cong"
	"whetstone/num"
)

// P8.2

// both is what is told of truths a and b.
func both(a, b api.Term) api.Term {
	return and(or(not(a), b), or(not(b), a))
}

func TestTheDocumentsExampleOfAFunction(t *testing.T) {
	l, k := name("l"), name("k")
	got, e := apply(0, "tag", equals(l, k))
	holds(t, got, e, equals(app("tag", l), app("tag", k)), api.OK)
}

// Each function that there is, of what it takes: to numbers, to data, to truths.
func TestFunctions(t *testing.T) {
	l, k, b, c, e, d, many, bare := name("l"), name("k"), name("b"), name("c"), name("e"), name("d"), name("many"), name("bare")
	for _, c := range []struct {
		a, b  api.Term
		f     string
		truth bool
	}{
		{l, k, "tag", false}, {b, c, "tag", false}, {e, d, "tag", false}, {many, many, "tag", false}, {bare, bare, "tag", false},
		{l, k, "CONS.0", false}, {l, k, "CONS.1", false}, {k, l, "CONS.1", false}, {l, l, "CONS.0", false}, {l, name("turned"), "CONS.0", false}, {app("CONS.1", l), app("BOX.1", b), "CONS.0", false},
		{b, c, "BOX.0", true}, {b, c, "BOX.1", false}, {b, c, "BOX.2", false}, {b, c, "BOX.3", false}, {b, b, "BOX.0", true}, {c, b, "BOX.0", true}, {app("BOX.3", b), c, "BOX.0", true},
		{b, c, "ODD.2", true}, {b, c, "ODD.3", false}, {b, c, "A.1.0", true}, {l, k, "LATE.0", true}, {l, k, "LATE.1", false}, {many, many, "MANY.9", false}, {many, many, "tag.0", false},
		{e, d, "E.0", false}, {e, d, "E.1", false}, {e, d, ".0", true}, {e, app("BOX.2", b), "E.0", false},
	} {
		fa, fb := app(c.f, c.a), app(c.f, c.b)
		want := equals(fa, fb)
		if c.truth {
			want = both(fa, fb)
		}
		got, e := apply(0, c.f, equals(c.a, c.b))
		holds(t, got, e, want, api.OK, c.f)
		// Of what stands beside in the fact nothing comes in.
		got, e = apply(2, c.f, yes(), equals(c.b, c.a), laden(equals(c.a, c.b)), equals(c.b, c.b))
		holds(t, got, e, want, api.OK, c.f)
	}
}

// Sides are taken as they are, with what their kinds do not name.
func TestSidesAreTakenAsTheyAre(t *testing.T) {
	a, b := laden(name("b")), app("BOX.3", laden(name("c")))
	a.Num, b.Num = api.Int{Neg: true}, num.Of(-5)
	got, e := apply(0, "BOX.0", equals(a, b))
	holds(t, got, e, both(app("BOX.0", a), app("BOX.0", b)), api.OK)
	got, e = apply(0, "BOX.1", equals(a, b))
	holds(t, got, e, equals(app("BOX.1", a), app("BOX.1", b)), api.OK)
}

// unproved fails, unless api.ErrProof is told, whatever the function.
func unproved(t *testing.T, at int, facts ...api.Term) {
	t.Helper()
	for _, f := range functions() {
		got, e := apply(at, f, facts...)
		holds(t, got, e, api.Term{}, api.ErrProof, at, f, shorts(facts...))
	}
}

func TestFactsThatAreNotThere(t *testing.T) {
	fact := equals(name("l"), name("k"))
	for _, at := range []int{-1, 2, 3, most, -most - 1} {
		unproved(t, at, fact, fact)
	}
	unproved(t, 0)
	unproved(t, -1)
	for _, facts := range [][]api.Term{nil, {}} {
		got, e := cong.Apply(world(), scope(), facts, 0, "tag")
		holds(t, got, e, api.Term{}, api.ErrProof)
	}
}

func TestFactsThatAreNoEdges(t *testing.T) {
	l, k := name("l"), name("k")
	for kind := range 256 {
		for n := range 5 {
			fact := kids(api.TermKind(kind), slices.Repeat([]api.Term{l}, n)...)
			if fact.Kind != api.TermEq || n != 2 {
				unproved(t, 1, equals(l, k), fact)
			}
		}
	}
	for _, fact := range []api.Term{not(equals(l, k)), and(equals(l, k)), or(equals(l, k)), not(not(equals(l, k))), and(equals(l, k), equals(l, k)), l, {}} {
		unproved(t, 0, fact)
	}
}

// Both kids must have one sort, a data's, whichever of them has not.
func TestSortsOfSides(t *testing.T) {
	l, b, e := name("l"), name("b"), name("e")
	wrong := []api.Term{
		name("n"), name("late"), number(3), name("p"), yes(), add(), app("tag", l), app("CONS.0", l), app("BOX.0", b), equals(l, l), below(name("n"), name("m")),
		name("none"), name("odd"), name(""), {}, kids(noKind), kids(api.TermKappa), app("none", l), app("CONS.0"), app("CONS.0", b), app("ODD.0", b), app("INT.0", name("n")), app("CONS.1", l, l), equals(l), kids(api.TermVar, l), add(l), {Kind: api.TermNum, Num: api.Int{Digits: []uint32{0}}},
	}
	for _, a := range wrong {
		unproved(t, 0, equals(a, l))
		unproved(t, 0, equals(l, a))
		unproved(t, 0, equals(a, e))
		unproved(t, 0, equals(e, a))
		for _, other := range wrong {
			unproved(t, 0, equals(a, other))
		}
	}
	data := []api.Term{l, b, e, name("many"), name("bare")}
	for i, a := range data {
		for j, other := range data {
			if i != j {
				unproved(t, 0, equals(a, other))
			}
		}
	}
	// The sort is that of the last one of the name in the scope.
	got, errno := apply(0, "CONS.0", equals(l, name("turned")))
	holds(t, got, errno, equals(app("CONS.0", l), app("CONS.0", name("turned"))), api.OK)
	unproved(t, 0, equals(name("late"), l))
	for _, scope := range [][]api.Sorted{nil, {}, {{Name: "l", Sort: "list"}}, {{Name: "k", Sort: "list"}}, {{Name: "l", Sort: "list"}, {Name: "k", Sort: "box"}}, {{Name: "l", Sort: "list"}, {Name: "k", Sort: "list"}, {Name: "k", Sort: "none"}}} {
		got, e := cong.Apply(world(), scope, []api.Term{equals(l, name("k"))}, 0, "tag")
		holds(t, got, e, api.Term{}, api.ErrProof)
	}
	for _, datas := range [][]api.Data{nil, {}, world()[1:3]} {
		got, e := cong.Apply(datas, scope(), []api.Term{equals(l, l)}, 0, "tag")
		holds(t, got, e, api.Term{}, api.ErrProof)
	}
}

// A function that there is not, or that takes another sort, or whose result is of no sort.
func TestFunctionsThatDoNotTakeIt(t *testing.T) {
	taken := map[string][]string{
		"l": {"tag", "CONS.0", "CONS.1", "LATE.0", "LATE.1"}, "b": {"tag", "BOX.0", "BOX.1", "BOX.2", "BOX.3", "ODD.2", "ODD.3", "A.1.0"},
		"e": {"tag", "E.0", "E.1", ".0"}, "many": {"tag", "MANY.0", "MANY.9", "tag.0"}, "bare": {"tag"},
	}
	for a, names := range taken {
		for _, f := range functions() {
			_, e := apply(0, f, equals(name(a), name(a)))
			want := api.ErrSort
			if slices.Contains(names, f) {
				want = api.OK
			}
			if e != want {
				t.Error(a, f, e, "is not", want)
			}
			if want != api.OK {
				got, e := apply(0, f, equals(name(a), name(a)))
				holds(t, got, e, api.Term{}, api.ErrSort, a, f)
			}
		}
	}
}

// A function of int or bool takes nothing: no data has that sort.
func TestDatasNamedAsOtherSorts(t *testing.T) {
	for _, sort := range []string{api.SortInt, api.SortBool} {
		datas := []api.Data{{Name: sort, Cons: []api.Con{{Name: "C", Fields: []string{"int", "d", sort}}}}, {Name: "d", Cons: []api.Con{{Name: "D", Fields: []string{sort, "d"}}}}}
		scope := []api.Sorted{{Name: "x", Sort: sort}, {Name: "y", Sort: "d"}}
		for _, f := range []string{"tag", "C.0", "C.1", "C.2", "D.0", "none"} {
			got, e := cong.Apply(datas, scope, []api.Term{equals(name("x"), name("x"))}, 0, f)
			holds(t, got, e, api.Term{}, api.ErrProof, f)
			if f[0] == 'C' || f == "none" {
				got, e = cong.Apply(datas, scope, []api.Term{equals(name("y"), name("y"))}, 0, f)
				holds(t, got, e, api.Term{}, api.ErrSort, f)
			}
		}
		y := app("D.0", name("y"))
		want := equals(y, y)
		if sort == api.SortBool {
			want = both(y, y)
		}
		got, e := cong.Apply(datas, scope, []api.Term{equals(name("y"), name("y"))}, 0, "D.0")
		holds(t, got, e, want, api.OK)
	}
}

// What is asked of the fact comes ahead of what is asked of the function.
func TestTheFactIsAskedAheadOfTheFunction(t *testing.T) {
	l, k := name("l"), name("k")
	for _, facts := range [][]api.Term{{}, {yes()}, {equals(l)}, {equals(l, name("b"))}, {equals(name("n"), name("m"))}, {equals(l, name("none"))}} {
		got, e := apply(0, "none", facts...)
		holds(t, got, e, api.Term{}, api.ErrProof)
	}
	got, e := apply(0, "none", equals(l, k))
	holds(t, got, e, api.Term{}, api.ErrSort)
}
