package kind_test

import (
	"math/rand"
	"slices"
	"testing"

	"whetstone/api"
	"whetstone/kind"
	"whetstone/term"
)

// P14.4: Subst

// put is a type with the terms put for the names, in the words of the document.
func put(a api.Type, names []string, terms []api.Term) (api.Type, api.Errno) {
	both := min(len(names), len(terms))
	names, terms = slices.Clone(names[:both]), slices.Clone(terms[:both])
	without := func(gone string) {
		for i := slices.Index(names, gone); i >= 0; i = slices.Index(names, gone) {
			names, terms = slices.Delete(names, i, i+1), slices.Delete(terms, i, i+1)
		}
	}
	without("v")
	made := a
	made.Params, made.Result = nil, nil
	var e api.Errno
	if made.Refine, e = term.Subst(a.Refine, names, terms); e != api.OK {
		return api.Type{}, e
	}
	for _, p := range a.Params {
		within, e := put(p.Type, names, terms)
		if e != api.OK {
			return api.Type{}, e
		}
		made.Params = append(made.Params, param(p.Name, within))
		without(p.Name)
	}
	for _, result := range a.Result {
		within, e := put(result, names, terms)
		if e != api.OK {
			return api.Type{}, e
		}
		made.Result = append(made.Result, within)
	}
	return made, api.OK
}

// substs fails, unless a type with the terms put for the names is that.
func substs(t *testing.T, a api.Type, names []string, terms []api.Term, want api.Type, wantE api.Errno) {
	t.Helper()
	got, e := kind.Subst(a, names, terms)
	tells(t, "Subst in "+shown(a), got, e, want, wantE)
}

func TestSubstInABaseType(t *testing.T) {
	x, y, z := name("x"), name("y"), name("z")
	both := ints(and(most(x, v()), most(v(), y)))
	substs(t, both, []string{"x"}, []api.Term{number(1)}, ints(and(most(number(1), v()), most(v(), y))), api.OK)
	substs(t, both, []string{"x", "y"}, []api.Term{y, x}, ints(and(most(y, v()), most(v(), x))), api.OK) // at once
	substs(t, both, []string{"y", "x"}, []api.Term{add(x, y), y}, ints(and(most(y, v()), most(v(), add(x, y)))), api.OK)
	substs(t, both, []string{"x"}, []api.Term{v()}, ints(and(most(v(), v()), most(v(), y))), api.OK) // what is put in may be v
	// Of names that are v nothing is done.
	substs(t, both, []string{"v"}, []api.Term{x}, both, api.OK)
	substs(t, both, []string{"v", "x", "v"}, []api.Term{x, z, y}, ints(and(most(z, v()), most(v(), y))), api.OK)
	// A name that comes twice, and what is beyond the other row's end.
	substs(t, both, []string{"x", "x"}, []api.Term{y, z}, ints(and(most(z, v()), most(v(), y))), api.OK)
	substs(t, both, []string{"x", "x"}, []api.Term{z}, ints(and(most(z, v()), most(v(), y))), api.OK)
	substs(t, both, []string{"x"}, []api.Term{z, number(3)}, ints(and(most(z, v()), most(v(), y))), api.OK)
	substs(t, both, nil, []api.Term{z}, both, api.OK)
	substs(t, both, []string{"x"}, nil, both, api.OK)
	// Kappas stay, with what is put into their kids.
	substs(t, base("gone", kappa("x", x)), []string{"x"}, []api.Term{y}, base("gone", kappa("x", y)), api.OK)
	substs(t, base("x", api.Term{Kind: api.TermVar, Name: "x", Kids: []api.Term{y}}), []string{"x", "y"}, []api.Term{z, z}, base("x", z), api.OK)
	substs(t, api.Type{}, []string{"", "x"}, []api.Term{y, y}, api.Type{}, api.OK)
	substs(t, ints(name("")), []string{""}, []api.Term{y}, ints(y), api.OK)
}

func TestSubstHeedsParameters(t *testing.T) {
	x, y, one := name("x"), name("y"), number(1)
	is := func(a api.Term) api.Type { return ints(equals(v(), a)) }
	to := func(a, want api.Type) {
		t.Helper()
		substs(t, a, []string{"x"}, []api.Term{one}, want, api.OK)
	}
	to(fun(is(x)), fun(is(one)))
	to(fun(is(x), param("y", is(x))), fun(is(one), param("y", is(one))))
	// Its own type is ahead of a parameter; what is behind it stays.
	to(fun(is(x), param("x", is(x))), fun(is(x), param("x", is(one))))
	to(fun(is(x), param("y", is(x)), param("x", is(x)), param("z", is(x))), fun(is(x), param("y", is(one)), param("x", is(one)), param("z", is(x))))
	to(fun(fun(is(x), param("y", is(x))), param("x", plain("bool"))), fun(fun(is(x), param("y", is(x))), param("x", plain("bool"))))
	to(fun(is(x), param("x", fun(is(x)))), fun(is(x), param("x", fun(is(one))))) // one of functions is a parameter, too
	// The parameters of a part are none behind it.
	within := fun(is(x), param("x", is(x)))
	done := fun(is(x), param("x", is(one)))
	to(fun(is(x), param("f", within), param("g", is(x))), fun(is(one), param("f", done), param("g", is(one))))
	to(fun(within, param("f", within)), fun(done, param("f", done)))
	to(fun(within, param("f", within), param("x", is(x)), param("g", within)), fun(within, param("f", done), param("x", is(one)), param("g", within)))
	to(fun(is(x), param("f", fun(within, param("x", is(x))))), fun(is(one), param("f", fun(within, param("x", is(one))))))
	to(fun(is(x), param("x", is(x)), param("x", is(x))), fun(is(x), param("x", is(one)), param("x", is(x))))
	// The other names go on; names that are put in are taken in as they are.
	a := fun(is(add(x, y)), param("x", is(add(x, y))))
	substs(t, a, []string{"x", "y"}, []api.Term{y, x}, fun(is(add(x, x)), param("x", is(add(y, x)))), api.OK)
	substs(t, a, []string{"y", "x", "y"}, []api.Term{one, one, add(x, v())}, fun(is(add(x, add(x, v()))), param("x", is(add(one, add(x, v()))))), api.OK)
	substs(t, fun(is(v()), param("v", is(v()))), []string{"v"}, []api.Term{one}, fun(is(v()), param("v", is(v()))), api.OK)
}

// Types that are neither base nor of functions have refinements, too.
func TestSubstInOddTypes(t *testing.T) {
	x, one := name("x"), number(1)
	odd := api.Type{Fun: true, Sort: "x", Refine: x, Params: []api.Param{param("y", ints(x)), param("x", ints(x)), param("z", ints(x))}, Result: []api.Type{ints(x), ints(x)}}
	want := api.Type{Fun: true, Sort: "x", Refine: one, Params: []api.Param{param("y", ints(one)), param("x", ints(one)), param("z", ints(x))}, Result: []api.Type{ints(x), ints(x)}}
	substs(t, odd, []string{"x"}, []api.Term{one}, want, api.OK)
	odd.Fun, want.Fun = false, false
	substs(t, odd, []string{"x"}, []api.Term{one}, want, api.OK)
	for _, odd := range oddTypes() {
		substs(t, odd, []string{"n"}, []api.Term{one}, odd, api.OK)
	}
}

func TestSubstTakes20000PartsOfEachRefinement(t *testing.T) {
	x, y := name("x"), name("y")
	both := ints(and(x, x))
	large := ints(and(wide(9999), wide(10000)))
	substs(t, both, []string{"x"}, []api.Term{wide(10000)}, api.Type{}, api.ErrGrown)
	substs(t, fun(large, param("a", large), param("b", large)), []string{"x"}, []api.Term{y}, fun(large, param("a", large), param("b", large)), api.OK)
	substs(t, fun(plain("int"), param("a", plain("int")), param("b", fun(both))), []string{"x"}, []api.Term{wide(10000)}, api.Type{}, api.ErrGrown)
	substs(t, fun(both), []string{"x"}, []api.Term{wide(10000)}, api.Type{}, api.ErrGrown)
	substs(t, fun(both, param("x", plain("int"))), []string{"x"}, []api.Term{wide(10000)}, fun(both, param("x", plain("int"))), api.OK)
	substs(t, both, []string{"y"}, []api.Term{wide(30000)}, both, api.OK)
	// What is too great as it is, is so also where nothing is put in.
	substs(t, ints(wide(20000)), nil, nil, ints(wide(20000)), api.OK)
	substs(t, ints(wide(20001)), nil, nil, api.Type{}, api.ErrGrown)
	substs(t, fun(plain("int"), param("x", fun(ints(wide(20001))))), []string{"v"}, []api.Term{x}, api.Type{}, api.ErrGrown)
}

func TestSubstInAnyType(t *testing.T) {
	r := rand.New(rand.NewSource(4))
	changed := 0
	for range 10000 {
		a := someType(r, r.Intn(6))
		var names []string
		var terms []api.Term
		for range r.Intn(5) {
			names = append(names, someName(r))
		}
		for range r.Intn(5) {
			terms = append(terms, someNumber(r))
		}
		want, e := put(a, names, terms)
		substs(t, a, names, terms, want, e)
		if !sameType(want, a) && len(a.Params) > 0 {
			changed++
		}
	}
	if changed < 500 {
		t.Error(changed)
	}
}
