package model_test

import (
	"math/rand"
	"testing"

	"whetstone/api"
	"whetstone/model"
	"whetstone/num"
)

// P5.1

// all sorts of which values are asked.
func allSorts() []string {
	return append(dataSorts(), "int", "bool", "none", "NIL", "Int", "LIST")
}

// only fails, unless v is of these sorts and of no others.
func only(t *testing.T, v api.Value, sorts ...string) {
	t.Helper()
	want := map[string]int{}
	for _, sort := range sorts {
		want[sort] = 1
	}
	for _, sort := range allSorts() {
		if got := model.Of(world(), sort, v); got != (want[sort] == 1) {
			t.Errorf("%s of %q: %v", short(v), sort, got)
		}
	}
}

func TestOfNumbersAndTruths(t *testing.T) {
	for _, n := range []int64{0, 1, -1, 999999999, 1000000000, -1 << 63, 1<<63 - 1} {
		only(t, integer(n), "int")
	}
	only(t, api.Value{Kind: api.ValueInt, Num: num.Mul(num.Of(-1<<63), num.Of(1<<62))}, "int")
	only(t, truth(true), "bool")
	only(t, truth(false), "bool")
	for _, wrong := range wrongNumbers() {
		only(t, api.Value{Kind: api.ValueInt, Num: wrong})
	}
	for kind := range 256 {
		if kind < 1 || kind > 3 {
			only(t, api.Value{Kind: api.ValueKind(kind)})
		}
	}
	// Without datas, too.
	if !model.Of(nil, "int", integer(7)) || !model.Of(nil, "bool", truth(true)) || model.Of(nil, "int", truth(true)) || model.Of(nil, "bool", integer(7)) {
		t.Error("without datas")
	}
}

func TestOfData(t *testing.T) {
	only(t, list(), "list")
	only(t, list(1, 2, 3), "list")
	only(t, data("CONS", integer(1), nothing()), "list")
	only(t, data("CONS", integer(1), data("LATE", list(2), integer(3))), "list")
	only(t, data("PAIR", list(1), truth(false), integer(0), nothing()), "pair")
	only(t, data("PAIR", list(1), truth(true), integer(0), data("A.1", truth(true), list())), "pair")
	only(t, data("A.1", truth(true), list()), "pair")
	only(t, many(), "many")
	only(t, data("FEW"), "many")
	only(t, data("EMPTY", data("EMPTY", nothing())), "")
	for _, wrong := range []api.Value{
		// Constructors that there are not; other than as many fields; fields of another sort; wrong deep within.
		data("NONE"), data("nil"), data("list"), data("NIL", list()), data("CONS"), data("CONS", integer(1)), data("CONS", integer(1), list(), list()), data("CONS", list(), integer(1)), data("CONS", integer(1), integer(2)),
		data("CONS", truth(true), list()), data("CONS", integer(1), data("FEW")), data("CONS", integer(1), data("CONS", integer(1), truth(false))), data("CONS", integer(1), data("NONE")), data("CONS", integer(1), api.Value{}),
		data("CONS", nothing(), list()), data("PAIR", list(), nothing(), integer(1), nothing()), data("PAIR", list(), truth(true), integer(1), list()), data("A.1", truth(true), nothing(), nothing()),
		data("CONS", api.Value{Kind: api.ValueInt, Num: api.Int{Digits: []uint32{1, 0}}}, list()),
		// Fields of no sort, of none of which there is a value.
		data("LOST", integer(1), nothing()), data("LOST", integer(1), list()), data("LOST", integer(1), integer(1)), data("LOST", integer(1), data("none")),
	} {
		only(t, wrong)
	}
}

func TestOfNothing(t *testing.T) {
	only(t, nothing(), dataSorts()...)
	only(t, api.Value{Kind: api.ValueData, Fields: []api.Value{}, Num: api.Int{Digits: []uint32{}}}, dataSorts()...)
	only(t, data("", integer(1)))
	only(t, data("", integer(1), nothing()))
	only(t, data("", nothing()))
	for _, sort := range allSorts() {
		if model.Of(nil, sort, nothing()) || model.Of([]api.Data{{Name: "int"}, {Name: "bool"}}, sort, nothing()) {
			t.Error(sort)
		}
	}
	if model.Of(nil, "", nothing()) || !model.Of([]api.Data{{}}, "", nothing()) {
		t.Error("a data without a name")
	}
}

func TestOfPartsThatAreNotNamed(t *testing.T) {
	for _, v := range []api.Value{integer(5), integer(0), truth(true), truth(false), list(), list(1), nothing()} {
		changed := func(change func(v *api.Value)) api.Value {
			v := v
			change(&v)
			return v
		}
		if v.Kind != api.ValueInt {
			only(t, changed(func(v *api.Value) { v.Num = num.Of(1) }))
			only(t, changed(func(v *api.Value) { v.Num.Neg = true }))
			only(t, changed(func(v *api.Value) { v.Num.Digits = []uint32{0} }))
		}
		if v.Kind != api.ValueBool {
			only(t, changed(func(v *api.Value) { v.Truth = true }))
		}
		if v.Kind != api.ValueData {
			only(t, changed(func(v *api.Value) { v.Name = "NIL" }))
			only(t, changed(func(v *api.Value) { v.Fields = []api.Value{nothing()} }))
			only(t, changed(func(v *api.Value) { v.Fields = []api.Value{{}} }))
		}
		// The same, of a field.
		only(t, data("CONS", integer(1), changed(func(v *api.Value) { v.Num, v.Truth = num.Of(1), true })))
		only(t, data("CONS", changed(func(v *api.Value) { v.Name, v.Truth = "x", true }), list()))
	}
}

func TestOfDataNamedIntOrBool(t *testing.T) {
	for _, v := range []api.Value{data("INT", integer(1)), data("INTS"), data("BOOL", truth(true)), data("BOOLS"), data("INT", data("INTS"))} {
		only(t, v)
	}
	// A constructor that such a data has first is of no other.
	hidden := []api.Data{{Name: "int", Cons: []api.Con{{Name: "A"}}}, {Name: "bool", Cons: []api.Con{{Name: "B"}}}, {Name: "d", Cons: []api.Con{{Name: "A"}, {Name: "B"}, {Name: "C", Fields: []string{"int", "bool"}}}}}
	if model.Of(hidden, "d", data("A")) || model.Of(hidden, "d", data("B")) || model.Of(hidden, "int", data("A")) || model.Of(hidden, "bool", data("B")) || !model.Of(hidden, "d", nothing()) {
		t.Error("hidden")
	}
	if !model.Of(hidden, "d", data("C", integer(1), truth(true))) || model.Of(hidden, "d", data("C", data("A"), data("B"))) || model.Of(hidden, "d", data("C", nothing(), nothing())) {
		t.Error("fields of int and of bool")
	}
}

func TestOfTwoDatasOfOneName(t *testing.T) {
	// Either's constructors are of the sort; of one that two datas have the first one's fields hold.
	only(t, data("EARLY"), "list")
	only(t, data("LATE", list(1), integer(2)), "list")
	only(t, data("NIL", nothing()))
	only(t, data("NIL", data("A.1", truth(true), list())))
	only(t, data("CONS", integer(1), list(), truth(true)))
	two := []api.Data{{Name: "a", Cons: []api.Con{{Name: "C", Fields: []string{"int"}}}}, {Name: "b", Cons: []api.Con{{Name: "C", Fields: []string{"bool"}}, {Name: "D", Fields: []string{"a"}}}}, {Name: "a", Cons: []api.Con{{Name: "D"}}}}
	for _, c := range []struct {
		sort string
		v    api.Value
		want bool
	}{
		{"a", data("C", integer(1)), true}, {"b", data("C", integer(1)), false}, {"b", data("C", truth(true)), false}, {"a", data("C", truth(true)), false},
		{"b", data("D", data("C", integer(1))), true}, {"a", data("D"), false}, {"b", data("D"), false}, {"a", data("D", nothing()), false}, {"b", data("D", nothing()), true},
	} {
		if got := model.Of(two, c.sort, c.v); got != c.want {
			t.Error(c.sort, short(c.v), got)
		}
	}
}

func TestOfSomeValues(t *testing.T) {
	r := rand.New(rand.NewSource(1))
	are := 0
	for range 20000 {
		sort := pick(r, allSorts()...)
		v := someValue(r, sort, 1+r.Intn(30))
		known := sort == "int" || sort == "bool" || isDataSort(world(), sort)
		if got := model.Of(world(), sort, v); got != known {
			t.Fatal(sort, short(v), got)
		}
		v = spoilt(r, v)
		for _, sort := range allSorts() {
			got, want := model.Of(world(), sort, v), isOf(world(), sort, v)
			if got != want {
				t.Fatal(sort, short(v), got)
			}
			if got {
				are++
			}
		}
	}
	if are < 5000 {
		t.Error("too few of a sort:", are)
	}
}

func TestSame(t *testing.T) {
	odd := api.Value{Kind: api.ValueInt, Num: api.Int{Neg: true, Digits: []uint32{7, 0}}, Truth: true, Name: "x", Fields: []api.Value{integer(1), nothing()}}
	all := []api.Value{
		{}, integer(0), integer(1), integer(-1), integer(1000000001), truth(false), truth(true), nothing(), list(), list(1), list(2), list(1, 2), list(1, 3), data("CONS", list(1), integer(1)), data("NONE"), data("cons"), data("EARLY"),
		data("NIL", nothing()), data("NIL", nothing(), nothing()), data("", nothing()), data("CONS", integer(1)), data("CONS"), odd, {Kind: 4}, {Kind: 255},
	}
	// Numbers by their digits: none of these are the same.
	for _, n := range append(wrongNumbers()[1:], api.Int{Digits: []uint32{0, 0}}, api.Int{Neg: true, Digits: []uint32{0}}) {
		all = append(all, api.Value{Kind: api.ValueInt, Num: n}, api.Value{Kind: api.ValueData, Num: n})
	}
	for _, change := range []func(v *api.Value){
		func(v *api.Value) { v.Kind = api.ValueBool }, func(v *api.Value) { v.Num.Neg = false }, func(v *api.Value) { v.Num.Digits = []uint32{7} }, func(v *api.Value) { v.Num.Digits = []uint32{8, 0} },
		func(v *api.Value) { v.Truth = false }, func(v *api.Value) { v.Name = "y" }, func(v *api.Value) { v.Fields = v.Fields[:1] }, func(v *api.Value) { v.Fields = nil },
		func(v *api.Value) { v.Fields = []api.Value{integer(2), nothing()} }, func(v *api.Value) { v.Fields = []api.Value{integer(1), {Kind: api.ValueData, Truth: true}} },
	} {
		other := odd
		change(&other)
		all = append(all, other)
	}
	for i, a := range all {
		for j, b := range all {
			if model.Same(a, b) != (i == j) {
				t.Errorf("%d %d: %s %s", i, j, short(a), short(b))
			}
		}
	}
}

func TestSameOfSomeValues(t *testing.T) {
	r := rand.New(rand.NewSource(2))
	told := map[bool]int{}
	for range 20000 {
		a := someValue(r, pick(r, dataSorts()...), 30)
		b := spoilt(r, a)
		want := same(a, b)
		if model.Same(a, b) != want || model.Same(b, a) != want || !model.Same(a, a) || !model.Same(b, b) {
			t.Fatal(short(a), short(b))
		}
		told[want]++
	}
	if told[true] < 1000 || told[false] < 1000 {
		t.Error(told)
	}
}
