package model_test

import (
	"math/rand"
	"runtime/debug"
	"slices"
	"testing"
	"unsafe"

	"whetstone/api"
	"whetstone/model"
	"whetstone/num"
)

// R1: terms and values deeper than calls may be nested, and wide ones.

// stack is how many bytes nested calls may take here: what nests a call for each part of what is deep needs more.
const stack = 1 << 24

func TestDeepAndWideTerms(t *testing.T) {
	defer debug.SetMaxStack(debug.SetMaxStack(stack))
	const depth = 300000
	deep, wide, unbound := name("p"), and(), name("x")
	for range depth {
		deep, unbound = not(deep), not(unbound)
		wide.Kids = append(wide.Kids, yes())
	}
	comes(t, deep, truth(true))
	comes(t, not(deep), truth(false))
	comes(t, wide, truth(true))
	for _, c := range []struct {
		t api.Term
		e api.Errno
	}{{unbound, api.ErrName}, {and(deep, unbound), api.ErrName}, {add(deep, deep), api.ErrSort}, {and(wide, name("n")), api.ErrSort}} {
		got, e := model.Eval(world(), row(), c.t)
		holds(t, got, e, api.Value{}, c.e)
	}
	sum := add()
	for range 100000 {
		sum.Kids = append(sum.Kids, name("n"))
	}
	comes(t, sum, integer(500000))
}

// deepList is a list of so many numbers, made without nested calls, with that behind them.
func deepList(length int, end api.Value) api.Value {
	v := end
	for range length {
		v = data("CONS", integer(3), v)
	}
	return v
}

// isDeepList tells whether v is a list of so many numbers, and end.
func isDeepList(v api.Value, length int, end api.Value) bool {
	for range length {
		if v.Name != "CONS" || len(v.Fields) != 2 || !same(v.Fields[0], integer(3)) {
			return false
		}
		v = v.Fields[1]
	}
	return same(v, end)
}

func TestDeepValues(t *testing.T) {
	defer debug.SetMaxStack(debug.SetMaxStack(stack))
	const length = 300000
	right, other, wrong := deepList(length, list()), deepList(length, list(4)), deepList(length, truth(true))
	if !model.Of(world(), "list", right) || !model.Of(world(), "list", other) || model.Of(world(), "list", wrong) || model.Of(world(), "pair", right) {
		t.Error("of")
	}
	if !model.Same(right, right) || model.Same(right, other) || model.Same(wrong, right) {
		t.Error("same")
	}
	bounds := []api.Bound{{Name: "a", Value: right}, {Name: "b", Value: other}, {Name: "w", Value: wrong}}
	got, e := model.Eval(world(), bounds, app("CONS.1", name("a")))
	if e != api.OK || !isDeepList(got, length-1, list()) {
		t.Error("a field", e)
	}
	for _, c := range []struct {
		t api.Term
		v api.Value
		e api.Errno
	}{{equals(name("a"), name("a")), truth(true), api.OK}, {equals(name("a"), name("b")), truth(false), api.OK}, {app("tag", name("a")), integer(1), api.OK}, {app("tag", name("w")), api.Value{}, api.ErrSort}} {
		got, e := model.Eval(world(), bounds, c.t)
		holds(t, got, e, c.v, c.e)
	}
}

func TestANameIsHeldToItsSortOnce(t *testing.T) {
	const parts = 20000
	bounds := []api.Bound{{Name: "a", Value: deepList(200000, list())}}
	sum, first := add(), app("CONS.0", name("a"))
	for range parts {
		sum.Kids = append(sum.Kids, first)
	}
	got, e := model.Eval(world(), bounds, sum)
	holds(t, got, e, integer(3*parts), api.OK)
}

func TestLongNumbers(t *testing.T) {
	great := api.Int{Digits: slices.Repeat([]uint32{7}, 5000)}
	a := api.Term{Kind: api.TermNum, Num: great}
	comes(t, add(a, api.Term{Kind: api.TermScale, Num: num.Of(-1), Kids: []api.Term{a}}), integer(0))
	comes(t, equals(a, a), truth(true))
	comes(t, below(add(a, literal(1)), a), truth(false))
}

// R3, R4, R6

// span is the memory of a list, with the room behind it.
type span struct{ from, to uintptr }

func spanOf[T any](l []T) span {
	var one T
	from := uintptr(unsafe.Pointer(unsafe.SliceData(l)))
	return span{from, from + uintptr(cap(l))*unsafe.Sizeof(one)}
}

// spans are the memories of all lists of a value that have any.
func spans(v api.Value) []span {
	var all []span
	if cap(v.Num.Digits) > 0 {
		all = append(all, spanOf(v.Num.Digits))
	}
	if cap(v.Fields) > 0 {
		all = append(all, spanOf(v.Fields))
	}
	for _, field := range v.Fields {
		all = append(all, spans(field)...)
	}
	return all
}

// termSpans are the memories of all lists of a term that have any.
func termSpans(t api.Term) []span {
	var all []span
	if cap(t.Num.Digits) > 0 {
		all = append(all, spanOf(t.Num.Digits))
	}
	if cap(t.Kids) > 0 {
		all = append(all, spanOf(t.Kids))
	}
	for _, kid := range t.Kids {
		all = append(all, termSpans(kid)...)
	}
	return all
}

// apart fails, if an answer's list shares memory with another one, or with what was given.
func apart(t *testing.T, what string, answer []span, given ...span) {
	t.Helper()
	for i, a := range answer {
		for _, b := range append(answer[:i:i], given...) {
			if a.from < b.to && b.from < a.to {
				t.Fatal("two lists share memory:", what)
			}
		}
	}
}

// roomy is v in memory of its own, with room behind all lists, full of what no call makes.
func roomy(v api.Value) api.Value {
	v.Num.Digits = append(slices.Clone(v.Num.Digits), 11, 12, 13)[:len(v.Num.Digits)]
	var l []api.Value
	for _, field := range v.Fields {
		l = append(l, roomy(field))
	}
	v.Fields = append(l, data("room"), data("room"))[:len(l)]
	return v
}

// untouched tells whether a roomy value is as it was, with the room behind its lists.
func untouched(v, was api.Value) bool {
	digits, l := v.Num.Digits, v.Fields
	if !slices.Equal(digits[len(digits):len(digits)+3], []uint32{11, 12, 13}) || !slices.EqualFunc(l[len(l):len(l)+2], []api.Value{data("room"), data("room")}, same) {
		return false
	}
	return v.Kind == was.Kind && sameInt(v.Num, was.Num) && v.Truth == was.Truth && v.Name == was.Name && slices.EqualFunc(l, was.Fields, untouched)
}

// roomyTerm is the like of a term.
func roomyTerm(t api.Term) api.Term {
	t.Num.Digits = append(slices.Clone(t.Num.Digits), 11, 12, 13)[:len(t.Num.Digits)]
	var l []api.Term
	for _, kid := range t.Kids {
		l = append(l, roomyTerm(kid))
	}
	t.Kids = append(l, name("room"), name("room"))[:len(l)]
	return t
}

func untouchedTerm(t, was api.Term) bool {
	digits, l := t.Num.Digits, t.Kids
	if !slices.Equal(digits[len(digits):len(digits)+3], []uint32{11, 12, 13}) || !slices.EqualFunc(l[len(l):len(l)+2], []api.Term{name("room"), name("room")}, sameTerm) {
		return false
	}
	return t.Kind == was.Kind && t.Name == was.Name && sameInt(t.Num, was.Num) && slices.EqualFunc(l, was.Kids, untouchedTerm)
}

func sameData(a, b api.Data) bool {
	return a.Name == b.Name && slices.EqualFunc(a.Cons, b.Cons, func(c, d api.Con) bool { return c.Name == d.Name && slices.Equal(c.Fields, d.Fields) })
}

func sameBound(a, b api.Bound) bool { return a.Name == b.Name && same(a.Value, b.Value) }

func TestNoArgumentIsChangedAndAnswersAreNewMemory(t *testing.T) {
	r := author{rand.New(rand.NewSource(5)), 40}
	for range 3000 {
		bounds, a, datas := r.bounds(), r.term(pick(r.Rand, append(dataSorts(), "int", "bool")...), 1+r.Intn(30)), world()
		own, ownBounds := roomyTerm(a), slices.Clone(bounds)
		given := termSpans(own)
		for i := range ownBounds {
			ownBounds[i].Value = roomy(bounds[i].Value)
			given = append(given, spans(ownBounds[i].Value)...)
		}
		got, e := model.Eval(datas, ownBounds, own)
		again, againE := model.Eval(world(), bounds, a)
		holds(t, got, e, again, againE, shortTerm(a))
		apart(t, shortTerm(a), spans(got), given...)
		for i, b := range ownBounds {
			if b.Name != bounds[i].Name || !untouched(b.Value, bounds[i].Value) {
				t.Fatal("a bound is changed:", shortTerm(a))
			}
		}
		if !untouchedTerm(own, a) || !slices.EqualFunc(datas, world(), sameData) {
			t.Fatal("an argument is changed:", shortTerm(a))
		}
		v := roomy(bounds[len(bounds)-1].Value)
		model.Of(datas, "list", v)
		model.Same(v, ownBounds[0].Value)
		if !untouched(v, bounds[len(bounds)-1].Value) || !slices.EqualFunc(datas, world(), sameData) {
			t.Fatal("a value is changed:", short(v))
		}
	}
}

func TestAnAnswerSharesNoMemoryWithItself(t *testing.T) {
	shared := []api.Value{integer(1000000001), nothing()}
	both := api.Value{Kind: api.ValueData, Name: "PAIR", Fields: []api.Value{{Kind: api.ValueData, Name: "CONS", Fields: shared}, truth(true), shared[0], nothing()}}
	got, e := model.Eval(world(), []api.Bound{{Name: "v", Value: both}}, name("v"))
	holds(t, got, e, both, api.OK)
	apart(t, "a value that shares its lists", spans(got), spans(both)...)
	bounds := []api.Bound{{Name: "v", Value: list(1, 2)}}
	first, _ := model.Eval(world(), bounds, name("v"))
	first.Fields[0] = truth(true)
	second, e := model.Eval(world(), bounds, name("v"))
	holds(t, second, e, list(1, 2), api.OK)
	one, _ := model.Eval(nil, nil, literal(5))
	one.Num.Digits[0] = 6
	five, e := model.Eval(nil, nil, literal(5))
	holds(t, five, e, integer(5), api.OK)
}

// emptied is v with empty lists in the place of none.
func emptied(v api.Value) api.Value {
	v.Num.Digits = append([]uint32{}, v.Num.Digits...)
	l := []api.Value{}
	for _, field := range v.Fields {
		l = append(l, emptied(field))
	}
	v.Fields = l
	return v
}

func emptiedTerm(t api.Term) api.Term {
	t.Num.Digits = append([]uint32{}, t.Num.Digits...)
	l := []api.Term{}
	for _, kid := range t.Kids {
		l = append(l, emptiedTerm(kid))
	}
	t.Kids = l
	return t
}

func TestEmptyAndNilListsAreOne(t *testing.T) {
	r := author{rand.New(rand.NewSource(6)), 60}
	for range 600 {
		bounds, a := r.bounds(), r.term(pick(r.Rand, append(dataSorts(), "int", "bool")...), 1+r.Intn(30))
		want, wantE := model.Eval(world(), bounds, a)
		for i, b := range bounds {
			bounds[i].Value = emptied(b.Value)
			if !model.Same(b.Value, bounds[i].Value) || !model.Same(bounds[i].Value, b.Value) {
				t.Fatal(short(b.Value))
			}
			for _, sort := range allSorts() {
				if model.Of(world(), sort, b.Value) != model.Of(world(), sort, bounds[i].Value) {
					t.Fatal(sort, short(b.Value))
				}
			}
		}
		got, e := model.Eval(world(), bounds, emptiedTerm(a))
		holds(t, got, e, want, wantE, shortTerm(a))
	}
	bare := []api.Data{{Name: "d", Cons: []api.Con{{Name: "C", Fields: []string{}}}}, {Name: "e", Cons: []api.Con{}}}
	if !model.Of(bare, "d", data("C")) || !model.Of(bare, "d", data("C", []api.Value{}...)) || !model.Of(bare, "e", nothing()) || model.Of([]api.Data{}, "d", nothing()) {
		t.Error("datas without fields")
	}
}
