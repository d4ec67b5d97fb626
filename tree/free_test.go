package tree_test

import (
	"maps"
	"math/rand"
	"slices"
	"testing"

	"whetstone/api"
	"whetstone/num"
	"whetstone/term"
	"whetstone/tree"
)

// P15.2

// set are some names.
type set map[string]int

func (s set) with(more set) set {
	both := maps.Clone(s)
	maps.Copy(both, more)
	return both
}

func (s set) but(names ...string) set {
	left := maps.Clone(s)
	for _, n := range names {
		delete(left, n)
	}
	return left
}

// What is free, in the words of the document.

func freeTerm(t api.Term) set {
	free := set{}
	for _, n := range term.Free(t) {
		free[n]++
	}
	return free.but("v")
}

func freeAtom(a api.Atom) set {
	if a.Kind != api.AtomVar {
		return set{}
	}
	return set{a.Name: 1}
}

func freeType(t api.Type) set {
	if !t.Fun {
		return freeTerm(t.Refine)
	}
	return freeFunctions(t.Params, t.Result)
}

func freeFunctions(params []api.Param, result []api.Type) set {
	free := set{}
	var ahead []string
	for _, p := range params {
		free = free.with(freeType(p.Type).but(ahead...))
		ahead = append(ahead, p.Name)
	}
	for _, t := range result {
		free = free.with(freeType(t).but(ahead...))
	}
	return free
}

func freeSide(r api.Rhs) set {
	free := freeFunctions(r.Params, r.Result)
	for _, a := range r.Atoms {
		free = free.with(freeAtom(a))
	}
	for _, body := range r.Body {
		within := freeExpr(body)
		for _, p := range r.Params {
			within = within.but(p.Name)
		}
		free = free.with(within)
	}
	for _, t := range r.Terms {
		free = free.with(freeTerm(t))
	}
	return free
}

func freeExpr(e api.Expr) set {
	free := set{}
	if e.Kind == api.ExprRet || e.Kind == api.ExprIf || e.Kind == api.ExprMatch {
		free = freeAtom(e.Atom)
	}
	for _, t := range e.Type {
		free = free.with(freeType(t))
	}
	for _, r := range e.Rhs {
		free = free.with(freeSide(r))
	}
	for _, body := range e.Body {
		within := freeExpr(body)
		if e.Kind == api.ExprLet {
			within = within.but(e.Name)
		}
		free = free.with(within)
	}
	for _, a := range e.Arms {
		for _, body := range a.Body {
			free = free.with(freeExpr(body).but(a.Names...))
		}
	}
	return free
}

// frees fails, unless these names are free in an expression.
func frees(t *testing.T, e api.Expr, want ...string) {
	t.Helper()
	if got := tree.Free(e); !slices.Equal(got, want) {
		t.Fatal("free in", shown(e), "are", shown(got), "and not", shown(want))
	}
}

func TestFreeInExpressions(t *testing.T) {
	x, y := ret(atom("x")), ret(atom("y"))
	frees(t, example(), "y")
	frees(t, x, "x")
	frees(t, ret(digit(1)))
	frees(t, ret(api.Atom{Kind: api.AtomBool, Name: "x"}))
	frees(t, ret(api.Atom{Kind: 4, Name: "x"}))
	frees(t, ret(atom("v")), "v") // only in terms v is none
	frees(t, ret(atom("")), "")
	frees(t, either(atom("p"), x, either(atom("a"), y, x)), "a", "p", "x", "y")
	frees(t, match(atom("l"), arm("cons", x, "x", "l"), arm("nil", y, "x")), "l", "y")
	frees(t, match(atom("l"), arm("cons", x, "x"), arm("nil", x, "y")), "l", "x")
	// A let's name is bound in its body alone.
	frees(t, let("x", whole(), prim("add", atom("x"), digit(1)), y), "x", "y")
	frees(t, let("x", is("x"), just(digit(1)), x), "x")
	frees(t, let("x", whole(), block(x), x), "x")
	frees(t, let("x", whole(), just(digit(1)), let("y", is("x"), prim("add", atom("x"), atom("z")), y)), "z")
	frees(t, either(atom("x"), let("x", whole(), just(digit(1)), x), y), "x", "y")
	frees(t, either(digit(1), let("x", whole(), just(digit(1)), x), x), "x") // no longer bound there
	frees(t, let("x", whole(), just(digit(1)), let("x", whole(), just(atom("x")), x)))
	frees(t, let("x", whole(), block(let("x", whole(), just(digit(1)), x)), x))
	// Only of a let the name is.
	for _, kind := range []api.ExprKind{0, api.ExprRet, api.ExprIf, api.ExprMatch, 5} {
		frees(t, api.Expr{Kind: kind, Name: "x", Atom: digit(1), Body: []api.Expr{x, y}}, "x", "y")
	}
	frees(t, api.Expr{Kind: api.ExprLet, Name: "x", Atom: atom("a"), Body: []api.Expr{x, y, x}, Arms: []api.Arm{arm("c", x, "y")}}, "x", "y")
	frees(t, api.Expr{Kind: api.ExprLet, Name: "x", Atom: atom("a"), Body: []api.Expr{x, y, x}}, "y")
}

func TestFreeInRightSides(t *testing.T) {
	x := ret(atom("x"))
	in := func(r api.Rhs, want ...string) {
		t.Helper()
		frees(t, let("x", whole(), r, x), want...)
	}
	in(call(atom("f"), atom("x"), digit(2), atom("f"), truth(true), atom("g")), "f", "g", "x")
	in(asserts(and(most(name("n"), name("x")), v(), kappa("k", name("m")), app("f.1", name("n")))), "m", "n", "x")
	in(lam(is("p"), x, param("p", is("n")), param("x", is("p"))), "n")
	in(lam(is("p"), x, param("p", is("x")), param("q", is("p"))), "x")
	in(lam(is("x"), ret(atom("p")), param("x", is("p")), param("p", is("p"))), "p")
	in(lam(is("x"), ret(atom("v")), param("v", is("v"))), "x")
	in(lam(fun(is("x"), param("x", is("y"))), ret(digit(1)), param("y", fun(is("y"), param("z", is("z"))))), "y", "z")
	// Its terms are asked where its parameters are not bound, its atoms, too.
	within := lam(is("x"), x, param("x", whole()))
	within.Terms = []api.Term{name("x")}
	in(within, "x")
	within.Terms, within.Atoms = nil, []api.Atom{atom("x")}
	in(within, "x")
	within.Atoms, within.Body = nil, []api.Expr{x, ret(atom("y")), x}
	in(within, "y")
	within.Body, within.Result = nil, []api.Type{is("x"), is("z"), is("x")}
	in(within, "z")
	for kind := range 12 {
		within.Kind = api.RhsKind(kind)
		in(within, "z")
	}
}

func TestFreeInTypes(t *testing.T) {
	in := func(a api.Type, want ...string) {
		t.Helper()
		frees(t, api.Expr{Type: []api.Type{whole(), a}}, want...)
		frees(t, let("y", a, just(digit(1)), ret(atom("y"))), want...)
	}
	in(ints(and(most(name("n"), v()), name("v"), name(""))), "", "n")
	in(fun(is("x"), param("x", is("x"))), "x")
	in(fun(is("x"), param("x", whole())))
	in(fun(fun(is("x"), param("y", is("y"))), param("x", fun(is("x"), param("z", is("z"))))), "x", "y", "z")
	in(fun(is("a"), param("f", fun(is("a"), param("a", whole())))), "a") // the parameter of a parameter is none behind it
	in(fun(whole(), param("f", fun(whole(), param("a", whole()))), param("g", is("a"))), "a")
	in(fun(whole(), param("a", whole()), param("a", is("a"))))
	in(fun(is("v"), param("x", is("v"))))
	// The refinement of a type of functions does not count, nor do the parameters of others.
	odd := fun(is("b"), param("x", is("a")))
	odd.Refine = name("c")
	in(odd, "a", "b")
	odd.Result = append(odd.Result, is("x"), is("d"))
	in(odd, "a", "b", "d")
	odd.Fun = false
	in(odd, "c")
	in(fun(odd, param("c", odd)), "c")
	in(fun(odd, param("c", whole())))
}

func TestFreeInOddExpressions(t *testing.T) {
	one, two := ret(atom("p")), let("y", is("h"), just(atom("t")), ret(atom("y")))
	for kind, want := range map[api.ExprKind][]string{
		0: {"h", "p", "q", "r", "t", "x", "y"}, api.ExprLet: {"h", "p", "q", "r", "t", "x", "y"}, api.ExprRet: {"h", "p", "q", "r", "t", "x", "y", "z"}, 9: {"h", "p", "q", "r", "t", "x", "y"},
	} {
		frees(t, odd(kind, one, two), want...)
	}
}

func TestFreeInAnyExpression(t *testing.T) {
	r := rand.New(rand.NewSource(3))
	left := 0
	for range 20000 {
		e := someExpr(r, r.Intn(12))
		want := slices.Sorted(maps.Keys(freeExpr(e)))
		frees(t, e, want...)
		if len(want) < 3 {
			left++
		}
	}
	if left < 3000 {
		t.Error(left)
	}
}

func TestTermsOfAtoms(t *testing.T) {
	odd := func(kind api.AtomKind, truth bool) api.Atom {
		return api.Atom{Kind: kind, Name: "x", Num: api.Int{Neg: true, Digits: []uint32{0, full}}, Truth: truth}
	}
	for _, c := range []struct {
		a    api.Atom
		want api.Term
	}{
		{atom("x"), name("x")}, {atom(""), name("")}, {atom("v"), name("v")}, {digit(-7), number(-7)}, {digit(0), number(0)}, {truth(true), yes()}, {truth(false), no()},
		{api.Atom{Kind: api.AtomInt, Num: num.Of(1 << 62)}, number(1 << 62)},
		{odd(api.AtomVar, true), name("x")}, {odd(api.AtomBool, true), yes()}, {odd(api.AtomBool, false), no()},
		{odd(api.AtomInt, true), api.Term{Kind: api.TermNum, Num: api.Int{Neg: true, Digits: []uint32{0, full}}}},
		{api.Atom{}, api.Term{}}, {odd(0, true), api.Term{}}, {odd(4, true), api.Term{}}, {odd(255, false), api.Term{}},
	} {
		tells(t, "the term of "+shown(c.a), tree.Atom(c.a), c.want)
	}
}
