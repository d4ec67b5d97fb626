package kind_test

import (
	"math/rand"
	"slices"
	"testing"

	"whetstone/api"
	"whetstone/kind"
)

// P14.5

// alike tells whether two types are of one shape, in the words of the document.
func alike(a, b api.Type) bool {
	if isBase(a) && isBase(b) {
		return a.Sort == b.Sort
	}
	return isFunctions(a) && isFunctions(b) && alike(a.Result[0], b.Result[0]) &&
		slices.EqualFunc(a.Params, b.Params, func(a, b api.Param) bool { return alike(a.Type, b.Type) })
}

// compares fails, unless two types are told to be the same, and alike, just if they are; whichever is the first one.
func compares(t *testing.T, a, b api.Type) {
	t.Helper()
	if kind.Same(a, b) != sameType(a, b) || kind.Same(b, a) != sameType(a, b) {
		t.Fatal("Same of", shown(a), "and", shown(b), "is not", sameType(a, b))
	}
	if kind.Alike(a, b) != alike(a, b) || kind.Alike(b, a) != alike(a, b) {
		t.Fatal("Alike of", shown(a), "and", shown(b), "is not", alike(a, b))
	}
}

// turned are types that are a but for one part, somewhere.
func turned(a api.Type) []api.Type {
	var l []api.Type
	change := func(do func(b *api.Type)) {
		b := a
		b.Params, b.Result = slices.Clone(a.Params), slices.Clone(a.Result)
		do(&b)
		l = append(l, b)
	}
	change(func(b *api.Type) { b.Fun = !b.Fun })
	change(func(b *api.Type) { b.Sort += "x" })
	change(func(b *api.Type) { b.Refine = and(b.Refine) })
	change(func(b *api.Type) { b.Refine.Name += "x" })
	change(func(b *api.Type) { b.Refine.Num.Neg = !b.Refine.Num.Neg })
	change(func(b *api.Type) { b.Refine.Num.Digits = append(slices.Clone(b.Refine.Num.Digits), 0) })
	change(func(b *api.Type) { b.Refine.Kids = append(slices.Clone(b.Refine.Kids), yes()) })
	change(func(b *api.Type) { b.Params = append(b.Params, param("x", plain("int"))) })
	change(func(b *api.Type) { b.Result = append(b.Result, plain("int")) })
	for i, p := range a.Params {
		change(func(b *api.Type) { b.Params[i].Name += "x" })
		change(func(b *api.Type) { b.Params = slices.Delete(b.Params, i, i+1) })
		for _, other := range turned(p.Type) {
			change(func(b *api.Type) { b.Params[i].Type = other })
		}
	}
	for i, result := range a.Result {
		change(func(b *api.Type) { b.Result = slices.Delete(b.Result, i, i+1) })
		for _, other := range turned(result) {
			change(func(b *api.Type) { b.Result[i] = other })
		}
	}
	return l
}

func TestSameAndAlikeOfFew(t *testing.T) {
	n := ints(most(number(0), v()))
	f := fun(n, param("x", plain("int")), param("y", fun(plain("list"), param("z", n))))
	other := fun(plain("int"), param("y", n), param("f", fun(plain("list"), param("x", plain("int")))))
	for _, c := range []struct {
		a, b        api.Type
		same, alike bool
	}{
		{n, n, true, true}, {n, plain("int"), false, true}, {n, base("bool", n.Refine), false, false}, {api.Type{}, api.Type{}, true, true}, {base("gone", yes()), base("gone", no()), false, true},
		{f, f, true, true}, {f, other, false, true}, {f, fun(n, f.Params[0]), false, false}, {f, fun(n, f.Params[1], f.Params[0]), false, false}, {f, fun(plain("bool"), f.Params...), false, false},
		{fun(n), n, false, false}, {fun(n), fun(n), true, true}, {fun(fun(n)), fun(fun(n)), true, true}, {fun(fun(n)), fun(n), false, false}, {fun(n), fun(n, param("x", n)), false, false},
		{fun(n, param("x", n)), fun(n, param("y", n)), false, true}, {fun(n, param("x", n)), fun(n, param("x", fun(n))), false, false}, {fun(n, param("x", n), param("x", n)), fun(n, param("x", n), param("y", n)), false, true},
	} {
		compares(t, c.a, c.b)
		if kind.Same(c.a, c.b) != c.same || kind.Alike(c.a, c.b) != c.alike {
			t.Error(shown(c.a), "and", shown(c.b), "are not", c.same, c.alike)
		}
	}
}

// Types that are neither base nor of functions are the same as themselves, and alike to none.
func TestOddTypesAreAlikeToNone(t *testing.T) {
	all := append(oddTypes(), plain("int"), fun(plain("int"), param("n", plain("int"))), fun(plain("int")))
	for _, odd := range oddTypes() {
		if !kind.Same(odd, odd) || kind.Alike(odd, odd) || kind.Alike(fun(odd), fun(odd)) || kind.Alike(fun(plain("int"), param("f", odd)), fun(plain("int"), param("f", odd))) {
			t.Error(shown(odd))
		}
		for _, other := range all {
			compares(t, odd, other)
			compares(t, fun(odd), fun(other))
		}
	}
}

func TestEachPartCounts(t *testing.T) {
	n := ints(most(number(0), v()))
	f := fun(fun(plain("list"), param("b", base("bool", v()))), param("x", n), param("f", fun(n, param("y", fun(n)), param("z", n))), param("", plain("")))
	for _, a := range append(oddTypes(), n, f, api.Type{}) {
		for _, b := range turned(a) {
			if kind.Same(a, b) {
				t.Error(shown(a), "and", shown(b))
			}
			compares(t, a, b)
			compares(t, b, b)
		}
	}
}

func TestSameAndAlikeOfAny(t *testing.T) {
	r := rand.New(rand.NewSource(6))
	for range 1500 {
		a, b := someType(r, r.Intn(5)), someType(r, r.Intn(5))
		compares(t, a, a)
		compares(t, a, b)
		compares(t, b, pick(r, turned(b)...))
	}
}
