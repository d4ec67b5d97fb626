package kind_test

import (
	"math/rand"
	"slices"
	"strconv"
	"testing"

	"whetstone/api"
	"whetstone/kind"
	"whetstone/term"
)

// P14.2

// wrong is what is wrong with a type in the world, in the words of the document.
func wrong(scope []api.Sorted, t api.Type) api.Errno {
	names := map[string]bool{}
	for _, p := range t.Params {
		names[p.Name] = true
	}
	switch {
	case !isBase(t) && !isFunctions(t):
		return api.ErrType
	case len(t.Params) > 6:
		return api.ErrMany
	case len(names) < len(t.Params):
		return api.ErrTwice
	case isBase(t):
		return wrongBase(scope, t)
	}
	within := slices.Clone(scope)
	for _, p := range t.Params {
		if e := wrong(within, p.Type); e != api.OK {
			return e
		}
		if isBase(p.Type) {
			within = append(within, api.Sorted{Name: p.Name, Sort: p.Type.Sort})
		}
	}
	return wrong(within, t.Result[0])
}

func wrongBase(scope []api.Sorted, t api.Type) api.Errno {
	datas := world()
	if t.Sort != "int" && t.Sort != "bool" && !slices.ContainsFunc(datas, func(d api.Data) bool { return d.Name == t.Sort }) {
		return api.ErrSort
	}
	formula, e := term.Expand(kappas(), t.Refine)
	if e != api.OK {
		return e
	}
	sort, e := term.Sort(datas, append(slices.Clone(scope), api.Sorted{Name: "v", Sort: t.Sort}), formula)
	if e == api.OK && sort != "bool" {
		return api.ErrSort
	}
	return e
}

// forms fails, unless that is what WellFormed tells of a type in the world.
func forms(t *testing.T, a api.Type, want api.Errno) {
	t.Helper()
	if got := kind.WellFormed(world(), kappas(), row(), a); got != want {
		t.Error(shown(a), "is", got, "and not", want)
	}
}

func TestBaseTypesThatAreWellFormed(t *testing.T) {
	for _, a := range []api.Type{
		plain("int"), plain("bool"), plain("list"), plain("box"), plain(""), plain("bare"), ints(no()), ints(and()), ints(or()),
		base("bool", v()), base("bool", not(v())), ints(most(v(), v())), base("list", most(app("tag", v()), number(0))), base("list", equals(v(), name("l"))), base("box", app("box.0", v())), base("", equals(v(), v())),
		ints(most(name("n"), name("late"))), ints(name("p")), ints(equals(name(""), name(""))), ints(and(name("p"), or(), and(yes(), not(name("p"))))),
		ints(kappa("above", name("n"), v())), ints(kappa("none")), ints(not(kappa("none"))), ints(equals(kappa("sum", kappa("sum", v())), number(4))), ints(kappa("open", v())), ints(kappa("value")), base("bool", kappa("great", v())),
	} {
		forms(t, a, api.OK)
	}
}

func TestBaseTypesThatAreNot(t *testing.T) {
	for _, a := range []api.Type{plain("gone"), plain("Int"), plain("nil"), plain("n"), base("gone", kappa("lost")), base("gone", number(1)), base("->", yes())} {
		forms(t, a, api.ErrSort)
	}
	of := func(refine api.Term, want api.Errno) {
		t.Helper()
		forms(t, ints(refine), want)
	}
	for _, refine := range []api.Term{number(0), {}, v(), name("n"), name("lost"), kids(15), kappa("nested"), kappa("sum", v()), kappa("great", v())} {
		of(refine, api.ErrSort)
	}
	of(name("none"), api.ErrName)
	of(kappa("lost"), api.ErrName)
	of(kappa("above"), api.ErrMany)
	of(kids(api.TermTrue, api.Term{}), api.ErrMany)
	of(kappa("great", wide(133)), api.OK)
	of(kappa("great", wide(134)), api.ErrGrown)
	of(wide(20000), api.OK)
	of(wide(20001), api.ErrGrown)
	// What Expand tells comes ahead of what Sort does, wherever it is.
	of(and(name("none"), number(1), kappa("lost")), api.ErrName)
	of(and(number(1), name("none"), kappa("above")), api.ErrMany)
	of(and(kids(api.TermNot), name("none"), kappa("nested")), api.ErrSort)
	of(and(kids(api.TermNot), name("none")), api.ErrMany)
	of(and(name("none"), kids(api.TermNot)), api.ErrName)
	forms(t, base("bool", equals(v(), yes())), api.ErrSort)
	forms(t, base("list", most(v(), number(0))), api.ErrSort)
	forms(t, base("bare", most(number(0), app("cons.0", v()))), api.ErrSort)
}

// The v of a scope, or of a parameter, is none of a base type's own.
func TestVIsOfTheTypesOwnSort(t *testing.T) {
	forms(t, ints(most(v(), number(0))), api.OK)
	forms(t, ints(app("box.0", v())), api.ErrSort)
	forms(t, fun(base("bool", v()), param("v", plain("int"))), api.OK)
	forms(t, fun(ints(most(v(), number(0))), param("v", base("bool", v())), param("w", base("list", equals(v(), v())))), api.OK)
	forms(t, fun(base("bool", most(v(), number(0))), param("v", plain("int"))), api.ErrSort)
}

func TestParametersComeIntoTheScope(t *testing.T) {
	x, k := most(name("x"), v()), most(v(), name("k"))
	flag, n := base("bool", name("x")), most(name("n"), number(0))
	forms(t, fun(plain("int")), api.OK)
	forms(t, fun(ints(x), param("x", plain("int"))), api.OK)
	forms(t, fun(ints(and(x, k)), param("x", plain("int")), param("k", ints(x))), api.OK)
	forms(t, fun(plain("int"), param("x", ints(x))), api.ErrName)
	forms(t, fun(plain("int"), param("k", ints(x)), param("x", plain("int"))), api.ErrName)
	forms(t, fun(ints(x), param("x", plain("bool"))), api.ErrSort)
	forms(t, fun(flag, param("x", plain("bool"))), api.OK)
	forms(t, fun(ints(n), param("n", plain("bool"))), api.ErrSort) // the outer n is a number
	forms(t, fun(ints(n), param("n", ints(n)), param("m", ints(n))), api.OK)
	forms(t, fun(ints(n), param("n", fun(plain("int")))), api.OK) // functions are none of the scope
	forms(t, fun(ints(x), param("x", fun(plain("int")))), api.ErrName)
	forms(t, fun(fun(ints(x), param("x", flag)), param("x", plain("int"))), api.ErrSort)
	forms(t, fun(fun(ints(x), param("x", plain("int"))), param("x", plain("bool"))), api.OK)
	forms(t, fun(fun(fun(ints(x), param("k", ints(x))), param("f", fun(ints(x)))), param("x", plain("int"))), api.OK)
	// What comes into the scope of a part goes out of it again.
	within := fun(ints(x), param("x", plain("int")))
	forms(t, fun(ints(x), param("f", within)), api.ErrName)
	forms(t, fun(plain("int"), param("f", within), param("g", ints(x))), api.ErrName)
	forms(t, fun(within, param("f", within), param("x", plain("bool")), param("g", within)), api.OK)
	forms(t, fun(flag, param("x", plain("bool")), param("f", fun(within, param("x", plain("list")))), param("g", flag)), api.OK)
	forms(t, fun(flag, param("x", plain("bool")), param("f", fun(flag, param("x", plain("int"))))), api.ErrSort)
}

func TestSixParametersAndNoMore(t *testing.T) {
	for many := range 9 {
		a := fun(plain("int"))
		for i := range many {
			a.Params = append(a.Params, param("a"+strconv.Itoa(i), plain("int")))
		}
		want := api.OK
		if many > 6 {
			want = api.ErrMany
		}
		forms(t, a, want)
		forms(t, fun(a, param("f", plain("int"))), want)
		forms(t, fun(plain("int"), param("f", a)), want)
		if many > 1 {
			a.Params[many-1].Name = "a0"
			if many <= 6 {
				want = api.ErrTwice
			}
			forms(t, a, want)
		}
	}
}

// An error that is named first is told, and of those of two parts that of the outer one, or of the one to the left.
func TestWhichErrorIsTold(t *testing.T) {
	twice := fun(plain("gone"), param("x", plain("int")), param("x", plain("int")))
	many := fun(plain("gone"), slices.Repeat([]api.Param{param("x", plain("int"))}, 7)...)
	forms(t, twice, api.ErrTwice)
	forms(t, many, api.ErrMany)
	odd := many
	odd.Sort = "int"
	forms(t, odd, api.ErrType)
	for _, odd := range oddTypes() {
		forms(t, odd, api.ErrType)
		forms(t, fun(odd), api.ErrType)
		forms(t, fun(plain("gone"), param("f", odd)), api.ErrType)
		forms(t, fun(odd, param("f", plain("gone"))), api.ErrSort)
		forms(t, fun(odd, param("f", ints(name("none")))), api.ErrName)
		forms(t, fun(plain("int"), param("x", odd), param("x", odd)), api.ErrTwice)
		forms(t, fun(fun(odd, param("x", twice)), param("f", many)), api.ErrMany)
		forms(t, fun(fun(odd, param("x", twice)), param("f", plain("int"))), api.ErrTwice)
	}
	forms(t, fun(twice, param("x", fun(many))), api.ErrMany)
	forms(t, fun(twice, param("x", plain("int")), param("y", ints(kappa("above")))), api.ErrMany)
	forms(t, fun(twice, param("x", ints(name("none"))), param("y", ints(kappa("above")))), api.ErrName)
	empty := fun(plain("int"), param("", plain("int")), param("", plain("int")))
	forms(t, empty, api.ErrTwice)
	forms(t, fun(plain("int"), param("x", plain("int")), param("y", plain("int")), param("z", plain("int")), param("y", plain("int"))), api.ErrTwice)
}

func TestWellFormedWithoutAnythingAround(t *testing.T) {
	for a, want := range map[string]api.Errno{"int": api.OK, "bool": api.OK, "list": api.ErrSort, "": api.ErrSort} {
		if got := kind.WellFormed(nil, nil, nil, plain(a)); got != want {
			t.Error(a, got)
		}
	}
	if got := kind.WellFormed(nil, nil, nil, api.Type{}); got != api.ErrSort {
		t.Error(got)
	}
	if got := kind.WellFormed(world(), nil, nil, ints(kappa("none"))); got != api.ErrName {
		t.Error(got)
	}
	twice := append(kappas(), api.Kappa{Name: "none", Body: number(1)})
	if got := kind.WellFormed(world(), twice, nil, ints(kappa("none"))); got != api.OK {
		t.Error("the first kappa of a name counts", got)
	}
}

// However many names of the scope are asked for, the last one of each counts.
func TestManyNamesOfTheScope(t *testing.T) {
	r := rand.New(rand.NewSource(14))
	for many := range 40 {
		for range 40 {
			var scope []api.Sorted
			for range r.Intn(120) {
				scope = append(scope, api.Sorted{Name: "a" + strconv.Itoa(r.Intn(many+1)), Sort: pick(r, "int", "int", "int", "bool", "gone")})
			}
			for i := range many + 1 - r.Intn(2)*r.Intn(2) {
				scope = append(scope, api.Sorted{Name: "a" + strconv.Itoa((i+many/2)%(many+1)), Sort: "int"})
			}
			if r.Intn(3) == 0 {
				scope = append(scope, api.Sorted{Name: "a" + strconv.Itoa(r.Intn(many+1)), Sort: pick(r, "bool", "gone")})
			}
			a := ints(yes())
			for i := range many + 1 {
				a = kind.With(a, most(name("a"+strconv.Itoa(i)), v()))
			}
			f := fun(a, param("f", a), param("a1", plain("int")), param("g", a))
			for _, a := range []api.Type{a, f} {
				if got, want := kind.WellFormed(world(), nil, scope, a), wrong(scope, a); got != want {
					t.Fatal(shown(a), "is", got, "and not", want)
				}
			}
		}
	}
}

func TestWellFormedOfAnyType(t *testing.T) {
	r := rand.New(rand.NewSource(2))
	met := map[api.Errno]int{}
	for range 20000 {
		a := someType(r, r.Intn(5))
		scope := row()
		r.Shuffle(len(scope), func(i, j int) { scope[i], scope[j] = scope[j], scope[i] })
		got, want := kind.WellFormed(world(), kappas(), scope, a), wrong(scope, a)
		if got != want {
			t.Fatal(shown(a), "is", got, "and not", want)
		}
		if len(a.Params) > 0 {
			met[got]++
		}
	}
	for _, e := range []api.Errno{api.OK, api.ErrType, api.ErrTwice, api.ErrSort, api.ErrName} {
		if met[e] < 100 {
			t.Error("too few of", e, met)
		}
	}
}
