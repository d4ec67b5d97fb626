package model_test

import (
	"strconv"
	"testing"

	"whetstone/api"
	"whetstone/model"
	"whetstone/num"
)

// P5.2

// comes fails, unless t comes to that, in the world, with the row's names.
func comes(t *testing.T, a api.Term, want api.Value) {
	t.Helper()
	got, e := model.Eval(world(), row(), a)
	if e != api.OK || !same(got, want) {
		t.Errorf("%s: %v, %s is not %s", shortTerm(a), e, short(got), short(want))
	}
}

// fails fails, unless that is the error of a.
func fails(t *testing.T, a api.Term, want api.Errno) {
	t.Helper()
	got, e := model.Eval(world(), row(), a)
	if e != want || !same(got, api.Value{}) {
		t.Errorf("%s: %v, %s is not %v", shortTerm(a), e, short(got), want)
	}
}

func TestEvalOfNames(t *testing.T) {
	for n, v := range map[string]api.Value{
		"n": integer(5), "m": integer(-3), "z": integer(0), "p": truth(true), "q": truth(false), "nil": list(), "k": list(5, -6), "late": data("LATE", list(9), integer(8)), "pair": data("PAIR", list(1, 2), truth(true), integer(6), nothing()),
		"none": nothing(), "many": many(10, 11), "empty": data("EMPTY", nothing()), "": integer(2),
		// Of a name that comes twice the last one, and whatever the first one is.
		"twice": integer(40),
	} {
		comes(t, name(n), v)
		comes(t, api.Term{Kind: api.TermVar, Name: n, Num: wrongNumbers()[0], Kids: []api.Term{}}, v)
	}
	for _, n := range []string{"Wrong", "Int", "Bool", "Kind", "Short"} {
		fails(t, name(n), api.ErrSort)
	}
	for _, n := range []string{"x", "N", "n ", "NIL", "int", "tag", "true"} {
		fails(t, name(n), api.ErrName)
	}
}

func TestEvalOfANameThatStandsForNoValue(t *testing.T) {
	some := []api.Data{{Name: "d", Cons: []api.Con{{Name: "C", Fields: []string{"int"}}}}}
	none := []api.Data{{Name: "int", Cons: []api.Con{{Name: "C", Fields: []string{"int"}}}}, {Name: "bool", Cons: []api.Con{{Name: "B"}}}}
	for i, c := range []struct {
		datas []api.Data
		v     api.Value
		e     api.Errno
	}{
		{nil, integer(1), api.OK}, {nil, truth(true), api.OK}, {nil, nothing(), api.ErrSort}, {none, nothing(), api.ErrSort}, {some, nothing(), api.OK}, {append(none, some...), nothing(), api.OK},
		{some, data("C", integer(1)), api.OK}, {nil, data("C", integer(1)), api.ErrSort}, {none, data("C", integer(1)), api.ErrSort}, {append(none, some...), data("C", integer(1)), api.ErrSort}, {append(some, none...), data("C", integer(1)), api.OK}, {none, data("B"), api.ErrSort},
		{some, data("C", truth(true)), api.ErrSort}, {some, data("C"), api.ErrSort}, {some, data("D"), api.ErrSort}, {some, data("", integer(1)), api.ErrSort}, {some, api.Value{}, api.ErrSort}, {some, api.Value{Kind: 4}, api.ErrSort},
		{some, api.Value{Kind: api.ValueInt, Truth: true}, api.ErrSort}, {some, api.Value{Kind: api.ValueBool, Num: num.Of(1)}, api.ErrSort}, {some, api.Value{Kind: api.ValueData, Truth: true}, api.ErrSort},
	} {
		want := c.v
		if c.e != api.OK {
			want = api.Value{}
		}
		got, e := model.Eval(c.datas, []api.Bound{{Name: "v", Value: c.v}}, name("v"))
		holds(t, got, e, want, c.e, strconv.Itoa(i))
		// A name that does not stand in the term says nothing.
		got, e = model.Eval(c.datas, []api.Bound{{Name: "v", Value: c.v}}, literal(3))
		holds(t, got, e, integer(3), api.OK)
	}
}

func TestEvalOfNumbers(t *testing.T) {
	for _, n := range []int64{0, 1, -1, 999999999, 1000000000, -1 << 63} {
		comes(t, literal(n), integer(n))
	}
	for _, wrong := range wrongNumbers() {
		fails(t, api.Term{Kind: api.TermNum, Num: wrong}, api.ErrSort)
		fails(t, api.Term{Kind: api.TermScale, Num: wrong, Kids: []api.Term{name("n")}}, api.ErrSort)
		// What the kind does not name says nothing.
		comes(t, api.Term{Kind: api.TermAdd, Name: "x", Num: wrong, Kids: []api.Term{name("n"), literal(1)}}, integer(6))
		comes(t, api.Term{Kind: api.TermTrue, Name: "x", Num: wrong}, truth(true))
	}
	comes(t, add(), integer(0))
	comes(t, add(name("n")), integer(5))
	comes(t, add(name("n"), name("m"), literal(100), name("n")), integer(107))
	comes(t, add(name("m"), literal(3)), integer(0))
	comes(t, add(literal(999999999), literal(1)), integer(1000000000))
	comes(t, scaled(0, name("n")), integer(0))
	comes(t, scaled(-4, name("m")), integer(12))
	comes(t, scaled(3, scaled(-2, name("n"))), integer(-30))
	great := num.Mul(num.Of(1<<62), num.Of(1<<62))
	comes(t, scaled(1<<62, literal(1<<62)), api.Value{Kind: api.ValueInt, Num: great})
	comes(t, add(api.Term{Kind: api.TermNum, Num: great}, api.Term{Kind: api.TermNum, Num: num.Neg(great)}), integer(0))
	for _, other := range []string{"p", "l", "none"} {
		fails(t, add(name("n"), name(other)), api.ErrSort)
		fails(t, add(name(other)), api.ErrSort)
		fails(t, scaled(2, name(other)), api.ErrSort)
		fails(t, scaled(0, name(other)), api.ErrSort)
	}
}

func TestEvalOfTag(t *testing.T) {
	for n, tag := range map[string]int64{"nil": 0, "l": 1, "k": 1, "pair": 0, "a1": 3, "many": 0, "empty": 1, "none": -1,
		// In the data of that name that has it.
		"early": 0, "late": 1} {
		comes(t, app("tag", name(n)), integer(tag))
	}
	comes(t, app("tag", app("CONS.1", name("l"))), integer(0))
	comes(t, app("tag", app("CONS.1", name("nil"))), integer(-1))
	for _, other := range []api.Term{name("n"), name("p"), literal(0), yes()} {
		fails(t, app("tag", other), api.ErrSort)
	}
	// With a data of an empty name, too; and a constructor named tag is none of its functions.
	named := []api.Data{{Cons: []api.Con{{Name: "C"}}}, {Name: "d", Cons: []api.Con{{Name: "D"}, {Name: "tag", Fields: []string{"int"}}}}}
	bounds := []api.Bound{{Name: "c", Value: data("C")}, {Name: "d", Value: data("tag", integer(7))}}
	for _, c := range []struct {
		t api.Term
		v int64
	}{{app("tag", name("c")), 0}, {app("tag", name("d")), 1}, {app("tag.0", name("d")), 7}} {
		got, e := model.Eval(named, bounds, c.t)
		holds(t, got, e, integer(c.v), api.OK, shortTerm(c.t))
	}
}

func TestEvalOfFields(t *testing.T) {
	for _, c := range []struct {
		f, of string
		v     api.Value
	}{
		{"CONS.0", "l", integer(5)}, {"CONS.1", "l", list()}, {"CONS.1", "k", list(-6)}, {"LATE.0", "late", list(9)}, {"LATE.1", "late", integer(8)}, {"PAIR.0", "pair", list(1, 2)}, {"PAIR.1", "pair", truth(true)}, {"PAIR.2", "pair", integer(6)}, {"PAIR.3", "pair", nothing()},
		{"A.1.0", "a1", truth(true)}, {"A.1.1", "a1", list(4)}, {"MANY.0", "many", integer(10)}, {"MANY.9", "many", integer(109)}, {"EMPTY.0", "empty", nothing()},
		// Of another constructor: 0, false, nothing, by the field's sort.
		{"CONS.0", "nil", integer(0)}, {"CONS.1", "nil", nothing()}, {"LATE.0", "nil", nothing()}, {"LATE.1", "nil", integer(0)}, {"PAIR.0", "a1", nothing()}, {"PAIR.1", "a1", truth(false)}, {"PAIR.2", "a1", integer(0)}, {"PAIR.3", "a1", nothing()}, {"A.1.0", "pair", truth(false)}, {"A.1.1", "pair", nothing()},
		// Of two datas of one name either's data is of the function's sort.
		{"CONS.0", "late", integer(0)}, {"CONS.1", "early", nothing()}, {"LATE.0", "k", nothing()}, {"LATE.1", "k", integer(0)},
		// A constructor without a name.
		{".0", "empty", integer(0)}, {".1", "empty", nothing()},
	} {
		comes(t, app(c.f, name(c.of)), c.v)
	}
	// Nothing is of each function's sort.
	for f, v := range map[string]api.Value{
		"CONS.0": integer(0), "CONS.1": nothing(), "PAIR.1": truth(false), "A.1.0": truth(false), "MANY.5": integer(0), ".0": integer(0), ".1": nothing(), "EMPTY.0": nothing(), "LOST.0": integer(0), "LOST.1": nothing(), "INT.0": integer(0), "BOOL.0": truth(false),
	} {
		comes(t, app(f, name("none")), v)
	}
	// The document's own example.
	comes(t, app("CONS.0", app("CONS.1", name("l"))), integer(0))
}

func TestEvalOfFunctionsThatThereAreNotAndOfOtherSorts(t *testing.T) {
	for _, f := range []string{"", ".", "0", "Tag", "tag.0", "tag ", "CONS", "CONS.", "CONS.2", "CONS.00", "CONS.-1", "CONS.a", "CONS.:", "CONS./", "CONS0", "cons.0", "NIL.0", "NONE.0", "list.0", "MANY.10", "MANY.11", ".2", "A.1", "A.0", "EARLY.0", "FEW.0", "CONS.١"} {
		for _, of := range []string{"k", "none", "n", "many"} {
			fails(t, app(f, name(of)), api.ErrSort)
		}
	}
	for f, others := range map[string][]string{
		"CONS.0": {"pair", "a1", "many", "empty", "n", "p"}, "LATE.0": {"pair", "n"}, "PAIR.0": {"l", "nil", "early", "many", "q"}, "A.1.0": {"k"}, "MANY.0": {"l", "n"}, ".0": {"l", "n", "pair"}, "EMPTY.0": {"nil", ""},
		// A data named int or bool has no values: a number is not one, nor are what its constructors make.
		"INT.0": {"n", "l", "p", "Int"}, "BOOL.0": {"p", "l", "n", "Bool"},
		// What has a field of no sort.
		"LOST.0": {"l", "n"}, "LOST.1": {"l", "n"},
	} {
		for _, other := range others {
			fails(t, app(f, name(other)), api.ErrSort)
		}
	}
	comes(t, app("LOST.0", name("pair")), integer(0))
	comes(t, app("LOST.1", name("pair")), nothing())
}

func TestEvalOfEqualities(t *testing.T) {
	for _, c := range []struct {
		a, b api.Term
		want bool
	}{
		{name("n"), literal(5), true}, {name("n"), name("m"), false}, {literal(0), name("z"), true}, {literal(1), literal(-1), false}, {literal(1000000007), literal(7), false}, {add(name("m"), literal(8)), name("n"), true},
		{name("l"), name("l"), true}, {name("l"), name("k"), false}, {app("CONS.1", name("l")), name("nil"), true}, {app("CONS.1", app("CONS.1", name("k"))), app("CONS.1", name("l")), true}, {name("late"), name("k"), false},
		// Data of two sorts are not the same, unless both are nothing.
		{name("l"), name("pair"), false}, {name("nil"), name("early"), false}, {name("many"), name("empty"), false}, {name("none"), name("nil"), false}, {name("pair"), name("none"), false}, {name("none"), name("none"), true},
		{app("CONS.1", name("nil")), app("PAIR.3", name("pair")), true}, {app("EMPTY.0", name("empty")), app("CONS.1", name("none")), true},
	} {
		comes(t, equals(c.a, c.b), truth(c.want))
		comes(t, equals(c.b, c.a), truth(c.want))
	}
	for _, c := range [][2]api.Term{{name("p"), name("p")}, {yes(), no()}, {name("n"), name("p")}, {name("n"), name("l")}, {name("l"), name("p")}, {name("none"), name("z")}, {name("none"), name("q")}} {
		fails(t, equals(c[0], c[1]), api.ErrSort)
		fails(t, equals(c[1], c[0]), api.ErrSort)
	}
	// The field of a truth is one, too: equality is not of these.
	fails(t, equals(app("PAIR.1", name("pair")), yes()), api.ErrSort)
}

func TestEvalOfAtMost(t *testing.T) {
	for _, c := range []struct {
		a, b int64
		want bool
	}{{1, 2, true}, {2, 2, true}, {3, 2, false}, {-3, -2, true}, {-2, -3, false}, {-1, 1, true}, {1, -1, false}, {0, 0, true}, {1000000000, 999999999, false}, {-1 << 63, 1<<63 - 1, true}} {
		comes(t, below(literal(c.a), literal(c.b)), truth(c.want))
	}
	for _, other := range []string{"p", "l", "none"} {
		fails(t, below(name("n"), name(other)), api.ErrSort)
		fails(t, below(name(other), name("n")), api.ErrSort)
		fails(t, below(name(other), name(other)), api.ErrSort)
	}
}

func TestEvalOfTruths(t *testing.T) {
	comes(t, yes(), truth(true))
	comes(t, no(), truth(false))
	comes(t, not(yes()), truth(false))
	comes(t, not(no()), truth(true))
	comes(t, not(not(name("p"))), truth(true))
	comes(t, and(), truth(true))
	comes(t, or(), truth(false))
	for bits := range 8 {
		var l []api.Term
		for i := range 3 {
			l = append(l, name([]string{"q", "p"}[bits>>i&1]))
		}
		a, b := bits&1 == 1, bits>>1&1 == 1
		comes(t, and(l...), truth(bits == 7))
		comes(t, or(l...), truth(bits > 0))
		comes(t, and(l[:2]...), truth(a && b))
		comes(t, or(l[:2]...), truth(a || b))
		comes(t, and(l[0]), truth(a))
		comes(t, or(l[0]), truth(a))
		comes(t, iff(l[0], l[1]), truth(a == b))
	}
	for _, other := range []string{"n", "z", "l", "none"} {
		// All kids are asked: what is known ahead of them ends nothing.
		fails(t, and(no(), name(other)), api.ErrSort)
		fails(t, or(yes(), name(other)), api.ErrSort)
		fails(t, and(name(other), yes()), api.ErrSort)
		fails(t, or(name(other), no()), api.ErrSort)
		fails(t, not(name(other)), api.ErrSort)
		fails(t, iff(name("p"), name(other)), api.ErrSort)
		fails(t, iff(name(other), name("p")), api.ErrSort)
	}
}

func TestEvalOfOtherThanAsManyKids(t *testing.T) {
	for kind, many := range map[api.TermKind]int{api.TermVar: 0, api.TermNum: 0, api.TermTrue: 0, api.TermFalse: 0, api.TermScale: 1, api.TermApp: 1, api.TermEq: 2, api.TermLe: 2, api.TermNot: 1, api.TermIff: 2} {
		for n := range 5 {
			// Ahead of the kids, of what the name and the number are, and whatever the kids are.
			for _, kid := range []api.Term{literal(1), name("p"), name("l"), name("x"), name("Wrong"), kappa("K"), equals()} {
				a := api.Term{Kind: kind, Name: "x", Num: wrongNumbers()[0]}
				for range n {
					a.Kids = append(a.Kids, kid)
				}
				if n != many {
					fails(t, a, api.ErrMany)
				} else if _, e := model.Eval(world(), row(), a); e == api.ErrMany && kid.Kind != api.TermEq {
					t.Error(shortTerm(a))
				}
			}
		}
	}
}

func TestEvalOfKindsThatThereAreNot(t *testing.T) {
	for kind := range 256 {
		if kind >= int(api.TermVar) && kind <= int(api.TermIff) {
			continue
		}
		for _, l := range [][]api.Term{nil, {literal(1)}, {name("p"), name("p")}, {name("x")}, {equals()}, {name("x"), equals(), name("x")}} {
			fails(t, api.Term{Kind: api.TermKind(kind), Name: "n", Kids: l}, api.ErrSort)
		}
	}
}

func TestEvalTellsTheFirstError(t *testing.T) {
	wrong := api.Term{Kind: api.TermNum, Num: wrongNumbers()[0]}
	unbound, many, sort := name("x"), equals(), kappa("K")
	for _, c := range []struct {
		t api.Term
		e api.Errno
	}{
		// From the left.
		{add(unbound, many), api.ErrName}, {add(many, unbound), api.ErrMany}, {add(unbound, sort), api.ErrName}, {add(sort, unbound), api.ErrSort}, {and(sort, many), api.ErrSort}, {or(many, sort), api.ErrMany}, {below(unbound, wrong), api.ErrName}, {below(wrong, unbound), api.ErrSort},
		{equals(name("Wrong"), unbound), api.ErrSort}, {iff(unbound, name("Wrong")), api.ErrName}, {add(literal(1), add(literal(2), unbound), many), api.ErrName}, {add(add(add(many)), unbound), api.ErrMany},
		// Kids ahead of their term.
		{add(name("p"), unbound), api.ErrName}, {add(name("p"), many), api.ErrMany}, {and(name("n"), unbound), api.ErrName}, {not(many), api.ErrMany}, {equals(name("p"), unbound), api.ErrName}, {below(name("l"), unbound), api.ErrName}, {iff(name("n"), unbound), api.ErrName},
		{app("none", unbound), api.ErrName}, {app("none", many), api.ErrMany}, {app("CONS.0", unbound), api.ErrName}, {api.Term{Kind: api.TermScale, Num: wrong.Num, Kids: []api.Term{unbound}}, api.ErrName}, {api.Term{Kind: api.TermScale, Num: wrong.Num, Kids: []api.Term{many}}, api.ErrMany},
		{add(not(name("n")), unbound), api.ErrSort}, {add(unbound, not(name("n"))), api.ErrName}, {and(app("CONS.0", name("n")), unbound), api.ErrSort},
		// How many they are, and what has no value, ahead of the kids.
		{equals(unbound), api.ErrMany}, {not(sort, unbound), api.ErrMany}, {below(sort, sort, sort), api.ErrMany}, {kappa("K", unbound), api.ErrSort}, {kappa("K", many), api.ErrSort}, {api.Term{Kind: noKind, Kids: []api.Term{unbound}}, api.ErrSort}, {api.Term{Kids: []api.Term{many}}, api.ErrSort},
		{api.Term{Kind: api.TermVar, Name: "x", Kids: []api.Term{sort}}, api.ErrMany}, {api.Term{Kind: api.TermVar, Name: "Wrong", Kids: []api.Term{unbound}}, api.ErrMany}, {api.Term{Kind: api.TermNum, Num: wrong.Num, Kids: []api.Term{unbound}}, api.ErrMany},
	} {
		fails(t, c.t, c.e)
	}
}

func TestEvalOfNamesWithoutBounds(t *testing.T) {
	for _, bounds := range [][]api.Bound{nil, {}} {
		got, e := model.Eval(world(), bounds, name("n"))
		holds(t, got, e, api.Value{}, api.ErrName)
		got, e = model.Eval(nil, bounds, add(literal(1), literal(2)))
		holds(t, got, e, integer(3), api.OK)
	}
	// The last one of a name counts, also where it is no value.
	two := []api.Bound{{Name: "a", Value: integer(1)}, {Name: "b", Value: integer(2)}, {Name: "a", Value: api.Value{}}}
	got, e := model.Eval(nil, two, add(name("b"), name("a")))
	holds(t, got, e, api.Value{}, api.ErrSort)
	got, e = model.Eval(nil, two[:2], add(name("b"), name("a")))
	holds(t, got, e, integer(3), api.OK)
}
