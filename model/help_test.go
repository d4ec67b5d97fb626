package model_test

import (
	"math/rand"
	"slices"
	"strconv"
	"strings"
	"testing"

	"whetstone/api"
	"whetstone/num"
)

const (
	full   = 1<<32 - 1 // the greatest digit that there is
	noKind = 15        // the first kind of terms that there is not
)

// Values.

func integer(n int64) api.Value { return api.Value{Kind: api.ValueInt, Num: num.Of(n)} }
func truth(b bool) api.Value    { return api.Value{Kind: api.ValueBool, Truth: b} }
func nothing() api.Value        { return api.Value{Kind: api.ValueData} }
func data(con string, l ...api.Value) api.Value {
	return api.Value{Kind: api.ValueData, Name: con, Fields: l}
}

// list is a list of these numbers.
func list(l ...int64) api.Value {
	v := data("NIL")
	for _, n := range slices.Backward(l) {
		v = data("CONS", integer(n), v)
	}
	return v
}

// Terms.

func kids(kind api.TermKind, l ...api.Term) api.Term { return api.Term{Kind: kind, Kids: l} }
func name(s string) api.Term                         { return api.Term{Kind: api.TermVar, Name: s} }
func literal(n int64) api.Term                       { return api.Term{Kind: api.TermNum, Num: num.Of(n)} }
func yes() api.Term                                  { return kids(api.TermTrue) }
func no() api.Term                                   { return kids(api.TermFalse) }
func add(l ...api.Term) api.Term                     { return kids(api.TermAdd, l...) }
func and(l ...api.Term) api.Term                     { return kids(api.TermAnd, l...) }
func or(l ...api.Term) api.Term                      { return kids(api.TermOr, l...) }
func not(l ...api.Term) api.Term                     { return kids(api.TermNot, l...) }
func iff(l ...api.Term) api.Term                     { return kids(api.TermIff, l...) }
func equals(l ...api.Term) api.Term                  { return kids(api.TermEq, l...) }
func below(l ...api.Term) api.Term                   { return kids(api.TermLe, l...) }
func app(f string, l ...api.Term) api.Term           { return api.Term{Kind: api.TermApp, Name: f, Kids: l} }
func kappa(k string, l ...api.Term) api.Term         { return api.Term{Kind: api.TermKappa, Name: k, Kids: l} }
func scaled(n int64, l ...api.Term) api.Term {
	return api.Term{Kind: api.TermScale, Num: num.Of(n), Kids: l}
}

// wrongNumbers are numbers that are not right.
func wrongNumbers() []api.Int {
	return []api.Int{{Neg: true}, {Neg: true, Digits: []uint32{}}, {Digits: []uint32{0}}, {Digits: []uint32{7, 0}}, {Digits: []uint32{api.Base}}, {Neg: true, Digits: []uint32{1, full}}}
}

// world are data at which something may turn: constructors of one name, in one data and in two, two datas of one name,
// names of a sort, fields of no sort, many fields, no name, and no constructors.
func world() []api.Data {
	return []api.Data{
		{Name: "list", Cons: []api.Con{{Name: "NIL"}, {Name: "CONS", Fields: []string{"int", "list"}}, {Name: "CONS", Fields: []string{"int", "list", "bool"}}}},
		{Name: "pair", Cons: []api.Con{{Name: "PAIR", Fields: []string{"list", "bool", "int", "pair"}}, {Name: "NIL", Fields: []string{"pair"}}, {Name: "LOST", Fields: []string{"int", "none"}}, {Name: "A.1", Fields: []string{"bool", "list"}}}},
		{Name: "int", Cons: []api.Con{{Name: "INT", Fields: []string{"int"}}, {Name: "INTS"}}},
		{Name: "bool", Cons: []api.Con{{Name: "BOOL", Fields: []string{"bool"}}, {Name: "BOOLS"}}},
		{Name: "many", Cons: []api.Con{{Name: "MANY", Fields: slices.Repeat([]string{"int"}, 12)}, {Name: "FEW"}}},
		{Name: "", Cons: []api.Con{{Name: "", Fields: []string{"int", ""}}, {Name: "EMPTY", Fields: []string{""}}}},
		{Name: "list", Cons: []api.Con{{Name: "EARLY"}, {Name: "LATE", Fields: []string{"list", "int"}}}},
		{Name: "bare"},
	}
}

// dataSorts are those of the world.
func dataSorts() []string { return []string{"list", "pair", "many", "", "bare"} }

// many is data of so many fields.
func many(l ...int64) api.Value {
	v := data("MANY")
	for i := range int64(12) {
		v.Fields = append(v.Fields, integer(100+i))
	}
	for i, n := range l {
		v.Fields[i] = integer(n)
	}
	return v
}

// row are names that stand for values: those that begin with a capital for such as are of no sort. Two come twice.
func row() []api.Bound {
	wrong := integer(7)
	wrong.Num.Digits = []uint32{7, 0}
	return []api.Bound{
		{Name: "twice", Value: data("NONE")}, {Name: "Wrong", Value: integer(1)},
		{Name: "n", Value: integer(5)}, {Name: "m", Value: integer(-3)}, {Name: "z", Value: integer(0)}, {Name: "p", Value: truth(true)}, {Name: "q", Value: truth(false)},
		{Name: "nil", Value: list()}, {Name: "l", Value: list(5)}, {Name: "k", Value: list(5, -6)}, {Name: "late", Value: data("LATE", list(9), integer(8))}, {Name: "early", Value: data("EARLY")},
		{Name: "pair", Value: data("PAIR", list(1, 2), truth(true), integer(6), nothing())}, {Name: "a1", Value: data("A.1", truth(true), list(4))}, {Name: "none", Value: nothing()}, {Name: "many", Value: many(10, 11)},
		{Name: "empty", Value: data("EMPTY", nothing())}, {Name: "", Value: integer(2)}, {Name: "twice", Value: integer(40)},
		{Name: "Wrong", Value: wrong}, {Name: "Int", Value: data("INT", integer(1))}, {Name: "Bool", Value: data("BOOLS")}, {Name: "Kind", Value: api.Value{}}, {Name: "Short", Value: data("CONS", integer(1))},
	}
}

func sameInt(a, b api.Int) bool { return a.Neg == b.Neg && slices.Equal(a.Digits, b.Digits) }

func same(a, b api.Value) bool {
	return a.Kind == b.Kind && sameInt(a.Num, b.Num) && a.Truth == b.Truth && a.Name == b.Name && slices.EqualFunc(a.Fields, b.Fields, same)
}

func sameTerm(a, b api.Term) bool {
	return a.Kind == b.Kind && a.Name == b.Name && sameInt(a.Num, b.Num) && slices.EqualFunc(a.Kids, b.Kids, sameTerm)
}

// digits is a number as it stands, right or not.
func digits(n api.Int) string {
	text := ""
	if n.Neg {
		text = "-"
	}
	for _, d := range n.Digits {
		text += strconv.Itoa(int(d)) + "."
	}
	return text
}

// short is what is told of a value where it is not as it should be.
func short(v api.Value) string {
	text := "(" + string(rune('0'+v.Kind)) + digits(v.Num) + v.Name
	if v.Truth {
		text += "+"
	}
	for _, field := range v.Fields {
		text += " " + short(field)
	}
	return text + ")"
}

// shortTerm is what is told of a term where it does not come to what it should.
func shortTerm(t api.Term) string {
	var text strings.Builder
	text.WriteString("(" + string(rune('A'+t.Kind-1)) + t.Name + digits(t.Num))
	for _, kid := range t.Kids {
		text.WriteString(shortTerm(kid))
	}
	return text.String() + ")"
}

// holds fails, unless a value and an error are what they should be.
func holds(t *testing.T, got api.Value, e api.Errno, want api.Value, wantE api.Errno, what ...string) {
	t.Helper()
	if e != wantE || !same(got, want) {
		t.Fatalf("%v: %v, not %v: %s is not %s", what, e, wantE, short(got), short(want))
	}
}

// pick is one of them.
func pick[T any](r *rand.Rand, l ...T) T { return l[r.Intn(len(l))] }

// someNumber is a right number: small, or of some digits.
func someNumber(r *rand.Rand) api.Int {
	if r.Intn(3) > 0 {
		return num.Of(int64(r.Intn(7)) - 3)
	}
	return num.Mul(num.Of(r.Int63()-1<<62), num.Of(r.Int63()))
}

// someValue is a value of that sort of the world.
func someValue(r *rand.Rand, sort string, size int) api.Value {
	if sort == api.SortInt {
		return api.Value{Kind: api.ValueInt, Num: someNumber(r)}
	}
	if sort == api.SortBool {
		return truth(r.Intn(2) == 0)
	}
	fields := map[string][]string{"NIL": nil, "CONS": {"int", "list"}, "LATE": {"list", "int"}, "PAIR": {"list", "bool", "int", "pair"}, "A.1": {"bool", "list"}, "MANY": slices.Repeat([]string{"int"}, 12), "EMPTY": {""}}
	cons := map[string][]string{"list": {"NIL", "EARLY", "CONS", "CONS", "LATE", "CONS"}, "pair": {"PAIR", "A.1"}, "many": {"FEW", "MANY"}, "": {"EMPTY"}}[sort]
	if size <= 1 || r.Intn(8) == 0 || cons == nil {
		return nothing()
	}
	v := data(pick(r, cons...))
	for _, field := range fields[v.Name] {
		v.Fields = append(v.Fields, someValue(r, field, size/2))
	}
	return v
}

// spoilt is v, or, more often, v with one part changed.
func spoilt(r *rand.Rand, v api.Value) api.Value {
	v.Fields = slices.Clone(v.Fields)
	if len(v.Fields) > 0 && r.Intn(2) == 0 {
		i := r.Intn(len(v.Fields))
		v.Fields[i] = spoilt(r, v.Fields[i])
		return v
	}
	switch r.Intn(9) {
	case 0:
		v.Kind = api.ValueKind(r.Intn(5))
	case 1:
		v.Num = pick(r, append(wrongNumbers(), api.Int{}, num.Of(7), num.Neg(v.Num))...)
	case 2:
		v.Truth = !v.Truth
	case 3:
		v.Name = pick(r, "", "NIL", "CONS", "LATE", "PAIR", "LOST", "A.1", "INT", "INTS", "BOOLS", "EMPTY", "NONE", "FEW")
	case 4:
		v.Fields = append(v.Fields, pick(r, integer(3), truth(true), nothing(), list(1), api.Value{}))
	case 5:
		v.Fields = v.Fields[:len(v.Fields)/2]
	case 6:
		return pick(r, integer(3), truth(true), nothing(), list(1), data("EARLY"), api.Value{})
	}
	return v
}
