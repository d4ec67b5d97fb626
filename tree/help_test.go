package tree_test

import (
	"math/rand"
	"reflect"
	"slices"
	"strconv"
	"strings"
	"testing"

	"whetstone/api"
	"whetstone/num"
)

const full = 1<<32 - 1 // the greatest digit that there is

// Terms.

func kids(kind api.TermKind, l ...api.Term) api.Term { return api.Term{Kind: kind, Kids: l} }
func name(s string) api.Term                         { return api.Term{Kind: api.TermVar, Name: s} }
func number(n int64) api.Term                        { return api.Term{Kind: api.TermNum, Num: num.Of(n)} }
func yes() api.Term                                  { return kids(api.TermTrue) }
func no() api.Term                                   { return kids(api.TermFalse) }
func add(l ...api.Term) api.Term                     { return kids(api.TermAdd, l...) }
func equals(a, b api.Term) api.Term                  { return kids(api.TermEq, a, b) }
func most(a, b api.Term) api.Term                    { return kids(api.TermLe, a, b) }
func and(l ...api.Term) api.Term                     { return kids(api.TermAnd, l...) }
func or(l ...api.Term) api.Term                      { return kids(api.TermOr, l...) }
func app(f string, l ...api.Term) api.Term           { return api.Term{Kind: api.TermApp, Name: f, Kids: l} }
func kappa(k string, l ...api.Term) api.Term         { return api.Term{Kind: api.TermKappa, Name: k, Kids: l} }
func v() api.Term                                    { return name("v") }

// wide is an or of so many parts, itself among them.
func wide(size int) api.Term {
	return or(slices.Repeat([]api.Term{yes()}, size-1)...)
}

// Types.

func base(sort string, refine api.Term) api.Type { return api.Type{Sort: sort, Refine: refine} }
func param(n string, t api.Type) api.Param       { return api.Param{Name: n, Type: t} }
func ints(refine api.Term) api.Type              { return base("int", refine) }
func whole() api.Type                            { return ints(yes()) }
func is(n string) api.Type                       { return ints(equals(v(), name(n))) }
func fun(result api.Type, params ...api.Param) api.Type {
	return api.Type{Fun: true, Params: params, Result: []api.Type{result}}
}

// Atoms, right sides, expressions.

func atom(n string) api.Atom { return api.Atom{Kind: api.AtomVar, Name: n} }
func digit(n int64) api.Atom { return api.Atom{Kind: api.AtomInt, Num: num.Of(n)} }
func truth(b bool) api.Atom  { return api.Atom{Kind: api.AtomBool, Truth: b} }

func side(kind api.RhsKind, n string, l ...api.Atom) api.Rhs {
	return api.Rhs{Kind: kind, Name: n, Atoms: l}
}
func just(a api.Atom) api.Rhs              { return side(api.RhsAtom, "", a) }
func prim(n string, l ...api.Atom) api.Rhs { return side(api.RhsPrim, n, l...) }
func call(l ...api.Atom) api.Rhs           { return side(api.RhsCall, "", l...) }
func block(e api.Expr) api.Rhs             { return api.Rhs{Kind: api.RhsBlock, Body: []api.Expr{e}} }
func asserts(t api.Term) api.Rhs           { return api.Rhs{Kind: api.RhsAssert, Terms: []api.Term{t}} }
func lam(result api.Type, e api.Expr, l ...api.Param) api.Rhs {
	return api.Rhs{Kind: api.RhsLam, Params: l, Result: []api.Type{result}, Body: []api.Expr{e}}
}

func let(n string, t api.Type, r api.Rhs, body api.Expr) api.Expr {
	return api.Expr{Kind: api.ExprLet, Name: n, Type: []api.Type{t}, Rhs: []api.Rhs{r}, Body: []api.Expr{body}}
}
func ret(a api.Atom) api.Expr { return api.Expr{Kind: api.ExprRet, Atom: a} }
func either(a api.Atom, yes, no api.Expr) api.Expr {
	return api.Expr{Kind: api.ExprIf, Atom: a, Body: []api.Expr{yes, no}}
}
func match(a api.Atom, arms ...api.Arm) api.Expr {
	return api.Expr{Kind: api.ExprMatch, Atom: a, Arms: arms}
}
func arm(con string, body api.Expr, names ...string) api.Arm {
	return api.Arm{Con: con, Names: names, Body: []api.Expr{body}}
}

// odd has a row of each kind, whatever its own Kind; each of these has two elements.
func odd(kind api.ExprKind, one, two api.Expr) api.Expr {
	within := lam(is("r"), one, param("p", is("q")))
	within.Name, within.Atoms, within.Body = "prim", []api.Atom{atom("x"), digit(1)}, []api.Expr{one, two}
	within.Result = append(within.Result, is("p"))
	within.Terms = []api.Term{name("p"), most(name("t"), v())}
	return api.Expr{
		Kind: kind, Name: "y", Atom: atom("z"), Type: []api.Type{is("y"), fun(is("p"), param("p", whole()))}, Rhs: []api.Rhs{within, just(atom("y"))},
		Arms: []api.Arm{{Con: "cons", Names: []string{"h", "t"}, Body: []api.Expr{one, two}}, arm("nil", two, "y")}, Body: []api.Expr{two, one},
	}
}

// Whether two of one kind are the same, lists without elements and nil ones being one.

func same[T any](a, b T) bool { return sameValue(reflect.ValueOf(a), reflect.ValueOf(b)) }

func sameValue(a, b reflect.Value) bool {
	switch a.Kind() {
	case reflect.Struct:
		for i := range a.NumField() {
			if !sameValue(a.Field(i), b.Field(i)) {
				return false
			}
		}
		return true
	case reflect.Slice:
		for i := range min(a.Len(), b.Len()) {
			if !sameValue(a.Index(i), b.Index(i)) {
				return false
			}
		}
		return a.Len() == b.Len()
	}
	return a.Equal(b)
}

// much is how much is told of an expression in a failing test.
const much = 900

// shown is an expression, or a part of one, as one may read it: what is zero, none, is left out.
func shown(a any) string {
	var s strings.Builder
	show(&s, reflect.ValueOf(a))
	return s.String()
}

func show(s *strings.Builder, a reflect.Value) {
	if s.Len() > much {
		return
	}
	switch a.Kind() {
	case reflect.Struct:
		s.WriteString("{")
		for i := range a.NumField() {
			if !a.Field(i).IsZero() {
				s.WriteString(a.Type().Field(i).Name + " ")
				show(s, a.Field(i))
			}
		}
		s.WriteString("}")
	case reflect.Slice:
		s.WriteString("[")
		for i := range a.Len() {
			show(s, a.Index(i))
		}
		s.WriteString("]")
	case reflect.String:
		s.WriteString(strconv.Quote(a.String()))
	case reflect.Bool:
		s.WriteString(strconv.FormatBool(a.Bool()))
	default:
		if a.CanInt() {
			s.WriteString(strconv.FormatInt(a.Int(), 10) + " ")
		} else {
			s.WriteString(strconv.FormatUint(a.Uint(), 10) + " ")
		}
	}
}

// tells fails, unless what is told is what it should be.
func tells[T any](t *testing.T, what string, got, want T) {
	t.Helper()
	if !same(got, want) {
		t.Fatal(what, "is", shown(got), "and not", shown(want))
	}
}

// Random ones.

func pick[T any](r *rand.Rand, l ...T) T { return l[r.Intn(len(l))] }

func someName(r *rand.Rand) string { return pick(r, "x", "y", "z", "n", "m", "v", "", "f_1") }

func someAtom(r *rand.Rand) api.Atom {
	switch r.Intn(8) {
	case 0:
		return digit(int64(r.Intn(9)) - 4)
	case 1:
		return truth(r.Intn(2) == 0)
	case 2: // one that has more than its kind asks, or of no kind
		return api.Atom{Kind: api.AtomKind(r.Intn(6)), Name: someName(r), Truth: r.Intn(2) == 0, Num: api.Int{Neg: true, Digits: []uint32{0, full}[:r.Intn(3)]}}
	}
	return atom(someName(r))
}

func someTerm(r *rand.Rand, size int) api.Term {
	if size < 2 || r.Intn(3) == 0 {
		return pick(r, name(someName(r)), name(someName(r)), number(int64(r.Intn(5))-2), yes(), no(), kids(15), api.Term{Kind: api.TermVar, Name: someName(r), Num: api.Int{Digits: []uint32{0}}, Kids: []api.Term{name(someName(r))}})
	}
	joined := pick(r, and(), or(), add(), app("tag"), kappa(someName(r)), kids(api.TermLe))
	for range r.Intn(4) {
		joined.Kids = append(joined.Kids, someTerm(r, size/2))
	}
	return joined
}

func someType(r *rand.Rand, size int) api.Type {
	if size < 2 || r.Intn(3) == 0 {
		return base(pick(r, "int", "bool", "list", "x"), someTerm(r, r.Intn(6)))
	}
	t := fun(someType(r, size/2))
	t.Params = someParams(r, size/2)
	switch r.Intn(8) {
	case 0:
		t.Fun = false
		t.Refine = someTerm(r, 4)
	case 1:
		t.Refine, t.Sort = someTerm(r, 4), "int"
	case 2:
		t.Result = append(t.Result, someType(r, size/2))
	}
	return t
}

func someParams(r *rand.Rand, size int) []api.Param {
	var l []api.Param
	for range r.Intn(4) {
		l = append(l, param(someName(r), someType(r, size)))
	}
	return l
}

func some[T any](r *rand.Rand, most int, one func() T) []T {
	var l []T
	for range r.Intn(most + 1) {
		l = append(l, one())
	}
	return l
}

func someSide(r *rand.Rand, size int) api.Rhs {
	atoms := some(r, 3, func() api.Atom { return someAtom(r) })
	switch r.Intn(8) {
	case 0:
		return lam(someType(r, size/2), someExpr(r, size/2), someParams(r, size/2)...)
	case 1:
		return block(someExpr(r, size-1))
	case 2:
		return asserts(someTerm(r, 5))
	case 3: // one that has what it may not have
		odd := lam(someType(r, size/2), someExpr(r, size/2), someParams(r, size/2)...)
		odd.Kind, odd.Name, odd.Atoms, odd.Terms = api.RhsKind(r.Intn(10)), someName(r), atoms, some(r, 2, func() api.Term { return someTerm(r, 4) })
		odd.Body = append(odd.Body, some(r, 1, func() api.Expr { return someExpr(r, size/3) })...)
		return odd
	}
	return side(pick(r, api.RhsAtom, api.RhsPrim, api.RhsCon, api.RhsCall, api.RhsPrint), someName(r), atoms...)
}

// someExpr is any expression: most have what expressions of their Kind have.
func someExpr(r *rand.Rand, size int) api.Expr {
	if size < 2 {
		return ret(someAtom(r))
	}
	names := func() []string { return some(r, 3, func() string { return someName(r) }) }
	switch r.Intn(9) {
	case 0:
		return either(someAtom(r), someExpr(r, size/2), someExpr(r, size/2))
	case 1:
		return match(someAtom(r), some(r, 3, func() api.Arm { return arm(someName(r), someExpr(r, size/2), names()...) })...)
	case 2:
		return api.Expr{
			Kind: api.ExprKind(r.Intn(6)), Name: someName(r), Atom: someAtom(r), Type: some(r, 2, func() api.Type { return someType(r, 3) }),
			Rhs: some(r, 2, func() api.Rhs { return someSide(r, size/3) }), Body: some(r, 3, func() api.Expr { return someExpr(r, size/3) }),
			Arms: some(r, 2, func() api.Arm {
				return api.Arm{Con: someName(r), Names: names(), Body: some(r, 2, func() api.Expr { return someExpr(r, size/3) })}
			}),
		}
	}
	return let(someName(r), someType(r, 4), someSide(r, size/2), someExpr(r, size-1))
}

func someInt(r *rand.Rand) api.Int {
	return pick(r, num.Of(int64(r.Intn(9))-4), api.Int{}, api.Int{Neg: true, Digits: []uint32{0, full}}, num.Of(1<<60))
}

func someProof(r *rand.Rand, size int) api.Proof {
	p := api.Proof{Kind: api.ProofKind(r.Intn(11)), Name: someName(r), Num: someInt(r)}
	p.At = some(r, 3, func() int { return r.Intn(9) - 2 })
	p.Coefs = some(r, 3, func() api.Ratio { return api.Ratio{Num: someInt(r), Den: someInt(r)} })
	p.Terms = some(r, 2, func() api.Term { return someTerm(r, 4) })
	if size > 1 {
		p.Kids = some(r, 3, func() api.Proof { return someProof(r, size/2) })
	}
	return p
}

func someProgram(r *rand.Rand) api.Program {
	names := func() []string { return some(r, 3, func() string { return someName(r) }) }
	var p api.Program
	p.Datas = some(r, 2, func() api.Data {
		return api.Data{Name: someName(r), Cons: some(r, 3, func() api.Con { return api.Con{Name: someName(r), Fields: names()} })}
	})
	p.Kappas = some(r, 2, func() api.Kappa {
		sorted := some(r, 3, func() api.Sorted { return api.Sorted{Name: someName(r), Sort: someName(r)} })
		return api.Kappa{Name: someName(r), Params: sorted, Body: someTerm(r, 6)}
	})
	p.Funs = some(r, 3, func() api.Fun {
		return api.Fun{Name: someName(r), Params: someParams(r, 3), Result: someType(r, 3), Body: someExpr(r, r.Intn(9))}
	})
	p.Proofs = some(r, 2, func() api.Proof { return someProof(r, 6) })
	return p
}
