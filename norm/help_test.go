package norm_test

import (
	"math/rand"
	"slices"
	"testing"

	"whetstone/api"
	"whetstone/norm"
	"whetstone/num"
	"whetstone/term"
)

const (
	full   = 1<<32 - 1 // the greatest digit that there is
	noKind = 15        // the first kind of terms that there is not
)

// Terms.

func kids(kind api.TermKind, l ...api.Term) api.Term { return api.Term{Kind: kind, Kids: l} }
func name(s string) api.Term                         { return api.Term{Kind: api.TermVar, Name: s} }
func number(n int64) api.Term                        { return api.Term{Kind: api.TermNum, Num: num.Of(n)} }
func yes() api.Term                                  { return kids(api.TermTrue) }
func no() api.Term                                   { return kids(api.TermFalse) }
func add(l ...api.Term) api.Term                     { return kids(api.TermAdd, l...) }
func equals(l ...api.Term) api.Term                  { return kids(api.TermEq, l...) }
func most(l ...api.Term) api.Term                    { return kids(api.TermLe, l...) }
func not(l ...api.Term) api.Term                     { return kids(api.TermNot, l...) }
func and(l ...api.Term) api.Term                     { return kids(api.TermAnd, l...) }
func or(l ...api.Term) api.Term                      { return kids(api.TermOr, l...) }
func iff(l ...api.Term) api.Term                     { return kids(api.TermIff, l...) }
func app(f string, l ...api.Term) api.Term           { return api.Term{Kind: api.TermApp, Name: f, Kids: l} }
func kappa(k string, l ...api.Term) api.Term         { return api.Term{Kind: api.TermKappa, Name: k, Kids: l} }
func scaled(n int64, l ...api.Term) api.Term {
	return api.Term{Kind: api.TermScale, Num: num.Of(n), Kids: l}
}

// laden is t with what most kinds do not name.
func laden(t api.Term) api.Term {
	if t.Name == "" {
		t.Name = "laden"
	}
	if len(t.Num.Digits) == 0 {
		t.Num = api.Int{Neg: true, Digits: []uint32{5, full, 0}}
	}
	return t
}

// times is a row of so many of one term.
func times(n int, t api.Term) []api.Term { return slices.Repeat([]api.Term{t}, n) }

// deep is inner within so many nots.
func deep(depth int, inner api.Term) api.Term {
	for range depth {
		inner = not(inner)
	}
	return inner
}

// wrongNumbers are numbers that are not right.
func wrongNumbers() []api.Int {
	return []api.Int{{Neg: true}, {Neg: true, Digits: []uint32{}}, {Digits: []uint32{0}}, {Digits: []uint32{7, 0}}, {Digits: []uint32{api.Base}}, {Neg: true, Digits: []uint32{1, full}}}
}

func sameInt(a, b api.Int) bool { return a.Neg == b.Neg && slices.Equal(a.Digits, b.Digits) }
func same(a, b api.Term) bool {
	return a.Kind == b.Kind && a.Name == b.Name && sameInt(a.Num, b.Num) && slices.EqualFunc(a.Kids, b.Kids, same)
}

// short is what is told of a term where it is not as it should be.
func short(t api.Term) string {
	key := term.Key(t)
	return key[:min(len(key), 600)]
}

// The world in which formulas stand: n, m, late are numbers, p, q truths, l, k, turned lists, b a box, e of the data
// without a name; odd is of no sort.

func world() []api.Data {
	return []api.Data{
		{Name: "list", Cons: []api.Con{{Name: "NIL"}, {Name: "CONS", Fields: []string{"int", "list"}}}},
		{Name: "box", Cons: []api.Con{{Name: "BOX", Fields: []string{"bool", "list", ""}}, {Name: "BARE"}, {Name: "ODD", Fields: []string{"odd"}}}},
		{Name: "", Cons: []api.Con{{Name: "E", Fields: []string{"int", ""}}}},
		{Name: "int", Cons: []api.Con{{Name: "INT", Fields: []string{"bool"}}}},
		{Name: "bool", Cons: []api.Con{{Name: "BOOL"}}},
		{Name: "list", Cons: []api.Con{{Name: "LATE", Fields: []string{"bool"}}}},
	}
}

func row() []api.Sorted {
	return []api.Sorted{
		{Name: "late", Sort: "list"}, {Name: "turned", Sort: "int"}, {Name: "n", Sort: "int"}, {Name: "m", Sort: "int"}, {Name: "p", Sort: "bool"}, {Name: "q", Sort: "bool"},
		{Name: "l", Sort: "list"}, {Name: "k", Sort: "list"}, {Name: "b", Sort: "box"}, {Name: "e", Sort: ""}, {Name: "odd", Sort: "odd"},
		{Name: "late", Sort: "int"}, {Name: "turned", Sort: "list"},
	}
}

// push pushes down in the world.
func push(t api.Term, is bool) (api.Term, api.Errno) { return norm.Push(world(), row(), t, is) }

// told fails, unless t is pushed down to want.
func told(t *testing.T, formula api.Term, is bool, want api.Term) {
	t.Helper()
	got, e := push(formula, is)
	if e != api.OK || !same(got, want) {
		t.Error(short(formula), is, ":", e, short(got), "is not", short(want))
	}
}

// refused fails, unless that error is told of t, and nothing beside, whichever way it is pushed.
func refused(t *testing.T, formula api.Term, want api.Errno) {
	t.Helper()
	for _, is := range []bool{true, false} {
		got, e := push(formula, is)
		if e != want || !same(got, api.Term{}) || got.Kids != nil || got.Num.Digits != nil {
			t.Error(short(formula), is, ":", e, "is not", want, short(got))
		}
	}
}

// Random ones.

// pick is one of them.
func pick[T any](r *rand.Rand, l ...T) T { return l[r.Intn(len(l))] }

// maybe is t, now and then with what its kind does not name.
func maybe(r *rand.Rand, t api.Term) api.Term {
	if r.Intn(8) == 0 {
		return laden(t)
	}
	return t
}

func someNumber(r *rand.Rand, size int) api.Term {
	if size <= 1 {
		return maybe(r, pick(r, name("n"), name("m"), name("late"), number(0), number(int64(r.Intn(7))-3), number(r.Int63()), add()))
	}
	switch r.Intn(4) {
	case 0:
		return maybe(r, scaled(int64(r.Intn(7))-3, someNumber(r, size-1)))
	case 1:
		return maybe(r, app(pick(r, "tag", "CONS.0"), someList(r, size-1)))
	case 2:
		return maybe(r, app(pick(r, "tag", "E.0"), someOther(r, size-1)))
	}
	return maybe(r, add(someNumber(r, size/2), someNumber(r, size/2)))
}

func someList(r *rand.Rand, size int) api.Term {
	if size <= 1 {
		return maybe(r, pick(r, name("l"), name("k"), name("turned")))
	}
	if r.Intn(4) == 0 {
		return maybe(r, app("BOX.1", name("b")))
	}
	return maybe(r, app("CONS.1", someList(r, size-1)))
}

// someOther is of the data without a name.
func someOther(r *rand.Rand, size int) api.Term {
	if size <= 1 {
		return pick(r, name("e"), app("BOX.2", name("b")))
	}
	return maybe(r, app("E.1", someOther(r, size-1)))
}

func someLiteral(r *rand.Rand, size int) api.Term {
	switch r.Intn(8) {
	case 0:
		return maybe(r, pick(r, yes(), no()))
	case 1:
		return maybe(r, app("BOX.0", name("b")))
	case 2:
		return maybe(r, app("LATE.0", someList(r, size-1)))
	case 3:
		return maybe(r, most(someNumber(r, size/2), someNumber(r, size/2)))
	case 4:
		return maybe(r, equals(someNumber(r, size/2), someNumber(r, size/2)))
	case 5:
		return maybe(r, equals(someList(r, size/2), someList(r, size/2)))
	case 6:
		return maybe(r, equals(someOther(r, size/2), someOther(r, size/2)))
	}
	return maybe(r, pick(r, name("p"), name("q")))
}

// someFormula has a sort, bool, in the world.
func someFormula(r *rand.Rand, size int) api.Term {
	if size <= 3 || r.Intn(6) == 0 {
		return someLiteral(r, min(size, 6))
	}
	switch r.Intn(6) {
	case 0, 1:
		return maybe(r, not(someFormula(r, size-1)))
	case 2:
		return maybe(r, iff(someFormula(r, size/2), someFormula(r, size/2)))
	}
	joined := pick(r, and(), or())
	for range r.Intn(4) {
		joined.Kids = append(joined.Kids, someFormula(r, size/3))
	}
	return maybe(r, joined)
}

// somePushed is pushed; its literals' kids are of any kinds.
func somePushed(r *rand.Rand, size int) api.Term {
	if size <= 2 {
		within := []api.Term{number(1), kappa("K"), {}, not(), name("x"), {Kind: noKind}}
		a, b := pick(r, within...), pick(r, within...)
		v, f, e := name("p"), app("f", a), equals(a, b)
		return maybe(r, pick(r, yes(), no(), v, f, most(a, b), e, not(v), not(f), not(e)))
	}
	joined := pick(r, and(), or())
	for range r.Intn(5) {
		joined.Kids = append(joined.Kids, somePushed(r, size/2))
	}
	return maybe(r, joined)
}

// spoilt is t with one part changed, so that it may be refused.
func spoilt(r *rand.Rand, t api.Term) api.Term {
	t.Kids = slices.Clone(t.Kids)
	if len(t.Kids) > 0 && r.Intn(4) > 0 {
		i := r.Intn(len(t.Kids))
		t.Kids[i] = spoilt(r, t.Kids[i])
		return t
	}
	switch r.Intn(6) {
	case 0, 1:
		t.Kind = api.TermKind(r.Intn(noKind + 1))
	case 2:
		t.Num = pick(r, append(wrongNumbers(), num.Of(3), api.Int{})...)
	case 3:
		t.Name = pick(r, "", "n", "p", "l", "none", "odd", "tag", "CONS.0", "CONS.2", "BOX.3", "ODD.0", "INT.0")
	case 4:
		t.Kids = append(t.Kids, pick(r, yes(), number(1), name("p"), name("none")))
	case 5:
		t.Kids = t.Kids[:len(t.Kids)/2]
	}
	return t
}
