package kind_test

import (
	"math/rand"
	"runtime/debug"
	"slices"
	"strconv"
	"strings"
	"testing"
	"unsafe"

	"whetstone/api"
	"whetstone/kind"
)

// R1: deeper than calls may be nested, and wide.

// deepTerm is inner within so many conjunctions.
func deepTerm(depth int, inner api.Term) api.Term {
	for range depth {
		inner = and(inner)
	}
	return inner
}

// deepResult is a type of functions within functions, whose results lie so deep; each has a parameter of its own, or all one.
func deepResult(depth int, own bool, inner api.Type) api.Type {
	for i := range depth {
		n := "x"
		if own {
			n += strconv.Itoa(i)
		}
		inner = fun(inner, param(n, ints(most(name("n"), v()))))
	}
	return inner
}

// deepParam is one whose parameters lie so deep.
func deepParam(depth int, inner api.Type) api.Type {
	for range depth {
		inner = fun(plain("int"), param("x", plain("int")), param("f", inner))
	}
	return inner
}

// bothSame fails, unless two types that are too deep for calls are the same, and alike.
func bothSame(t *testing.T, a, b api.Type) {
	t.Helper()
	if !kind.Same(a, b) || !kind.Alike(a, b) {
		t.Error("not the same")
	}
}

func TestDeepTypes(t *testing.T) {
	defer debug.SetMaxStack(debug.SetMaxStack(1 << 20))
	const many = 50000
	inner, other := ints(equals(name("n"), v())), base("bool", equals(name("n"), name("late")))
	for _, deep := range []func(inner api.Type) api.Type{
		func(inner api.Type) api.Type { return deepResult(many, true, inner) },
		func(inner api.Type) api.Type { return deepResult(many, false, inner) },
		func(inner api.Type) api.Type { return deepParam(many, inner) },
	} {
		a := deep(inner)
		if e := kind.WellFormed(nil, nil, row(), a); e != api.OK {
			t.Error(e)
		}
		if e := kind.WellFormed(nil, nil, row(), deep(fun(plain("list")))); e != api.ErrSort {
			t.Error(e)
		}
		if kind.Same(a, deep(other)) || kind.Alike(a, deep(other)) || !kind.Alike(a, deep(plain("int"))) {
			t.Error("alike")
		}
		bothSame(t, a, deep(inner))
		bothSame(t, a, kind.With(a, no()))
		b, e := kind.Subst(a, []string{"late", "n"}, []api.Term{number(7), name("late")})
		if e != api.OK || kind.WellFormed(nil, nil, row(), b) != api.OK || kind.Same(a, b) {
			t.Error(e)
		}
		if _, e := kind.Subst(deep(ints(wide(20001))), nil, nil); e != api.ErrGrown {
			t.Error(e)
		}
	}
}

func TestDeepAndWideTerms(t *testing.T) {
	defer debug.SetMaxStack(debug.SetMaxStack(1 << 20))
	const many = 100000
	n := most(number(0), v())
	deep, broad := deepTerm(many, n), and(slices.Repeat([]api.Term{n}, many)...)
	for _, great := range []api.Term{deep, broad, deepTerm(many, yes()), not(deepTerm(many, no()))} {
		if e := kind.WellFormed(nil, nil, nil, ints(great)); e != api.ErrGrown {
			t.Error(e)
		}
		if _, e := kind.At(nil, ints(great), n); e != api.ErrGrown {
			t.Error(e)
		}
		bothSame(t, kind.Base("int", great), ints(great))
		bothSame(t, kind.With(ints(great), yes()), ints(great))
		bothSame(t, kind.With(plain("int"), not(great)), ints(not(great)))
	}
	bothSame(t, kind.With(ints(yes()), deep), ints(n))
	bothSame(t, kind.With(ints(yes()), broad), ints(n))
	bothSame(t, kind.With(ints(deep), and(broad, no())), ints(and(n, no())))
	rows := and()
	for i := range int64(30000) {
		rows.Kids = append(rows.Kids, most(number(i), v()))
	}
	bothSame(t, kind.With(ints(rows), and(rows, rows)), ints(rows))
	bothSame(t, kind.With(plain("int"), and(rows, rows)), ints(rows))
}

func TestWideTypes(t *testing.T) {
	const many = 90000
	odd := api.Type{Fun: true}
	for i := range many {
		odd.Params = append(odd.Params, param("x"+strconv.Itoa(i), ints(name("n"))))
		odd.Result = append(odd.Result, ints(name("x7")))
	}
	if e := kind.WellFormed(nil, nil, nil, odd); e != api.ErrType {
		t.Error(e)
	}
	b, e := kind.Subst(odd, []string{"x7", "n", "x8"}, []api.Term{no(), yes(), no()})
	if e != api.OK || len(b.Params) != many || len(b.Result) != many || !sameTerm(b.Params[many-1].Type.Refine, yes()) || !sameTerm(b.Result[many-1].Refine, name("x7")) {
		t.Error(e)
	}
	odd.Result = odd.Result[:1]
	if e := kind.WellFormed(nil, nil, nil, odd); e != api.ErrMany {
		t.Error(e)
	}
	bothSame(t, odd, kind.With(odd, no()))
	// Many names in the scope, and many types.
	var scope []api.Sorted
	var names []string
	for i := range many {
		n := "a" + strconv.Itoa(i)
		scope, names = append(scope, api.Sorted{Name: n, Sort: "int"}), append(names, n)
	}
	scope = append(scope, api.Sorted{Name: "n", Sort: "int"})
	a := deepResult(many/3, true, ints(most(name("a5"), v())))
	if e := kind.WellFormed(nil, nil, scope, a); e != api.OK {
		t.Error(e)
	}
	if b, e := kind.Subst(a, names, slices.Repeat([]api.Term{number(1)}, many)); e != api.OK || !kind.Same(b, deepResult(many/3, true, ints(most(number(1), v())))) {
		t.Error(e)
	}
}

// R3, R4, R6

// span is the memory of a list, with the room behind it.
type span struct{ from, to uintptr }

func spanOf[T any](l []T) []span {
	if cap(l) == 0 {
		return nil
	}
	from := uintptr(unsafe.Pointer(unsafe.SliceData(l)))
	return []span{{from, from + uintptr(cap(l))*unsafe.Sizeof(l[:1][0])}}
}

// termSpans are the memories of all lists of terms.
func termSpans(l ...api.Term) []span {
	var all []span
	for _, t := range l {
		all = append(all, spanOf(t.Kids)...)
		all = append(all, spanOf(t.Num.Digits)...)
		all = append(all, termSpans(t.Kids...)...)
	}
	return all
}

// typeSpans are the memories of all lists of types.
func typeSpans(l ...api.Type) []span {
	var all []span
	for _, t := range l {
		all = append(all, spanOf(t.Params)...)
		all = append(all, spanOf(t.Result)...)
		all = append(all, termSpans(t.Refine)...)
		all = append(all, typeSpans(t.Result...)...)
		for _, p := range t.Params {
			all = append(all, typeSpans(p.Type)...)
		}
	}
	return all
}

// apart tells whether no two of these memories share a byte.
func apart(all ...span) bool {
	slices.SortFunc(all, func(a, b span) int {
		return strings.Compare(strconv.FormatUint(uint64(a.from)+1<<63, 10), strconv.FormatUint(uint64(b.from)+1<<63, 10))
	})
	for i := 1; i < len(all); i++ {
		if all[i].from < all[i-1].to {
			return false
		}
	}
	return true
}

// roomyTerm and roomyType are in memory of their own, with room behind all lists: what appends to them would be found out.
func roomyTerm(a api.Term) api.Term {
	a.Num.Digits = append(slices.Clone(a.Num.Digits), 7, 7)[:len(a.Num.Digits)]
	var own []api.Term
	for _, kid := range a.Kids {
		own = append(own, roomyTerm(kid))
	}
	a.Kids = append(own, no(), no())[:len(own)]
	return a
}

func roomyType(a api.Type) api.Type {
	a.Refine = roomyTerm(a.Refine)
	var params []api.Param
	for _, p := range a.Params {
		params = append(params, param(p.Name, roomyType(p.Type)))
	}
	a.Params = append(params, param("room", api.Type{}), param("room", api.Type{}))[:len(params)]
	var result []api.Type
	for _, one := range a.Result {
		result = append(result, roomyType(one))
	}
	a.Result = append(result, plain("room"), plain("room"))[:len(result)]
	return a
}

// untouchedTerm and untouchedType tell whether what is roomy is as it was, with the room behind its lists.
func untouchedTerm(a, was api.Term) bool {
	room, digits := a.Kids[len(a.Kids):len(a.Kids)+2], a.Num.Digits[len(a.Num.Digits):len(a.Num.Digits)+2]
	return sameTerm(and(room...), and(no(), no())) && digits[0] == 7 && digits[1] == 7 && a.Kind == was.Kind && a.Name == was.Name && sameInt(a.Num, was.Num) &&
		slices.EqualFunc(a.Kids, was.Kids, untouchedTerm)
}

func untouchedType(a, was api.Type) bool {
	params, result := a.Params[len(a.Params):len(a.Params)+2], a.Result[len(a.Result):len(a.Result)+2]
	room := sameType(fun(api.Type{}, params...), fun(api.Type{}, param("room", api.Type{}), param("room", api.Type{}))) && sameType(result[0], plain("room")) && sameType(result[1], plain("room"))
	return room && a.Fun == was.Fun && a.Sort == was.Sort && untouchedTerm(a.Refine, was.Refine) && slices.EqualFunc(a.Result, was.Result, untouchedType) &&
		slices.EqualFunc(a.Params, was.Params, func(a, b api.Param) bool { return a.Name == b.Name && untouchedType(a.Type, b.Type) })
}

// someRows are some names, terms for them, and a term.
func someRows(r *rand.Rand) ([]string, []api.Term, api.Term) {
	var names []string
	terms := make([]api.Term, 0, 6)
	for range r.Intn(5) {
		names, terms = append(names, someName(r)), append(terms, someNumber(r))
	}
	return names, terms, someFormula(r, r.Intn(6))
}

func TestNoTypeAndNoTermIsChangedOrKept(t *testing.T) {
	r := rand.New(rand.NewSource(12))
	for range 4000 {
		was := someType(r, r.Intn(5))
		names, wasTerms, wasTerm := someRows(r)
		a, of, terms := roomyType(was), roomyTerm(wasTerm), roomyTerm(or(wasTerms...)).Kids
		wasNames := slices.Clone(names)
		wasKappas := kappas()
		var rows []api.Term
		for _, k := range wasKappas {
			rows = append(rows, k.Body)
		}
		given := append(append(typeSpans(a), termSpans(or(terms...))...), termSpans(append(rows, of)...)...)
		for range 2 {
			put, _ := kind.Subst(a, names, terms)
			at, _ := kind.At(wasKappas, a, of)
			with := kind.With(a, of)
			truth, one := kind.Truth(terms...), kind.Truth(of)
			made := kind.Base("int", of, of)
			kind.WellFormed(world(), wasKappas, row(), a)
			kind.Same(a, put)
			kind.Alike(a, with)
			told := append(append(typeSpans(put, with, made), termSpans(at)...), termSpans(truth, one)...)
			if !apart(told...) {
				t.Fatal("two lists of answers share memory:", shown(a))
			}
			if !apart(append(slices.Clone(told), given...)...) {
				t.Fatal("an answer shares memory with what was given:", shown(a))
			}
		}
		if !untouchedType(a, was) || !untouchedTerm(of, wasTerm) || !slices.EqualFunc(terms, wasTerms, untouchedTerm) || !slices.Equal(names, wasNames) {
			t.Fatal("what was given is changed:", shown(was))
		}
		for i, k := range kappas() {
			if !sameTerm(k.Body, rows[i]) {
				t.Fatal("a kappa is changed:", k.Name)
			}
		}
	}
}

func TestTheSameIsToldEachTime(t *testing.T) {
	r := rand.New(rand.NewSource(13))
	for range 1000 {
		a := someType(r, r.Intn(6))
		names, terms, of := someRows(r)
		first, e := kind.Subst(a, names, terms)
		with, wrong := kind.With(a, of), kind.WellFormed(world(), kappas(), row(), a)
		for range 5 {
			again, againE := kind.Subst(a, names, terms)
			if !sameType(first, again) || e != againE || !sameType(with, kind.With(a, of)) || wrong != kind.WellFormed(world(), kappas(), row(), a) {
				t.Fatal(shown(a))
			}
		}
	}
}

func TestEmptyAndNilListsAreOne(t *testing.T) {
	empty := api.Term{Kind: api.TermTrue, Num: api.Int{Digits: []uint32{}}, Kids: []api.Term{}}
	a, b := api.Type{Sort: "int", Refine: empty, Params: []api.Param{}, Result: []api.Type{}}, plain("int")
	f := api.Type{Fun: true, Refine: api.Term{Num: api.Int{Digits: []uint32{}}, Kids: []api.Term{}}, Params: []api.Param{}, Result: []api.Type{a}}
	bothSame(t, a, b)
	bothSame(t, f, fun(b))
	withs(t, a, empty, b)
	withs(t, b, empty, b)
	withs(t, a, and(empty, no()), ints(no()))
	withs(t, f, no(), fun(b))
	ats(t, a, empty, yes(), api.OK)
	ats(t, f, empty, api.Term{}, api.ErrType)
	substs(t, f, []string{}, []api.Term{}, fun(b), api.OK)
	forms(t, a, api.OK)
	forms(t, f, api.OK)
	for _, none := range [][]api.Term{nil, {}} {
		tellsTerm(t, "Truth of none", kind.Truth(none...), api.OK, yes(), api.OK)
		tells(t, "Base of none", kind.Base("int", none...), api.OK, b, api.OK)
	}
	if e := kind.WellFormed([]api.Data{}, []api.Kappa{}, []api.Sorted{}, f); e != api.OK {
		t.Error(e)
	}
}
