package tree_test

import (
	"math/rand"
	"slices"
	"testing"

	"whetstone/api"
	"whetstone/term"
	"whetstone/tree"
)

// P15.3

// putter puts atoms for names, in the words of the document.
type putter struct {
	names []string
	atoms []api.Atom
	wrong api.Errno // the first error
}

func (p *putter) atom(a api.Atom) api.Atom {
	made := a
	for i := range min(len(p.names), len(p.atoms)) {
		if a.Kind == api.AtomVar && p.names[i] == a.Name {
			made = p.atoms[i]
		}
	}
	return made
}

func (p *putter) term(t api.Term) api.Term {
	var terms []api.Term
	for _, a := range p.atoms {
		terms = append(terms, tree.Atom(a))
	}
	made, e := term.Subst(t, p.names, terms)
	if p.wrong == api.OK {
		p.wrong = e
	}
	return made
}

func (p *putter) kind(t api.Type) api.Type {
	t.Refine, t.Params, t.Result = p.term(t.Refine), mapped(p.param, t.Params), mapped(p.kind, t.Result)
	return t
}

func (p *putter) param(of api.Param) api.Param { return param(of.Name, p.kind(of.Type)) }

func (p *putter) side(r api.Rhs) api.Rhs {
	r.Atoms, r.Params, r.Result = mapped(p.atom, r.Atoms), mapped(p.param, r.Params), mapped(p.kind, r.Result)
	r.Body, r.Terms = mapped(p.expr, r.Body), mapped(p.term, r.Terms)
	return r
}

func (p *putter) arm(a api.Arm) api.Arm {
	a.Body = mapped(p.expr, a.Body)
	return a
}

func (p *putter) expr(e api.Expr) api.Expr {
	e.Atom, e.Type, e.Rhs, e.Body, e.Arms = p.atom(e.Atom), mapped(p.kind, e.Type), mapped(p.side, e.Rhs), mapped(p.expr, e.Body), mapped(p.arm, e.Arms)
	return e
}

func mapped[T any](make func(T) T, l []T) []T {
	var made []T
	for _, one := range l {
		made = append(made, make(one))
	}
	return made
}

// substs fails, unless an expression with atoms put for names is that.
func substs(t *testing.T, e api.Expr, names []string, atoms []api.Atom, want api.Expr, wantE api.Errno) {
	t.Helper()
	got, wrong := tree.Subst(e, names, atoms)
	if wrong != wantE || !same(got, want) {
		t.Fatal(shown(e), "with", shown(atoms), "for", shown(names), "is", wrong, shown(got), "and not", wantE, shown(want))
	}
}

func TestSubstPutsAtoms(t *testing.T) {
	x, y, three := atom("x"), atom("y"), digit(3)
	one := func(e api.Expr, put api.Atom, want api.Expr) {
		t.Helper()
		substs(t, e, []string{"x"}, []api.Atom{put}, want, api.OK)
	}
	substs(t, example(), []string{"y"}, []api.Atom{three}, let("x", whole(), prim("add", three, digit(1)), ret(x)), api.OK)
	one(ret(x), three, ret(three))
	one(ret(x), x, ret(x))
	one(ret(y), three, ret(y))
	one(ret(x), api.Atom{}, ret(api.Atom{}))
	one(either(x, ret(x), ret(y)), truth(true), either(truth(true), ret(truth(true)), ret(y)))
	one(match(x, arm("x", ret(x), "x"), arm("nil", ret(y))), y, match(y, arm("x", ret(y), "x"), arm("nil", ret(y))))
	// Bound or not; what is bound keeps its name.
	one(let("x", is("x"), prim("x", x, y, x), ret(x)), three, let("x", ints(equals(v(), number(3))), prim("x", three, y, three), ret(three)))
	one(let("f", whole(), lam(is("x"), ret(x), param("x", is("x"))), ret(x)), y, let("f", whole(), lam(is("y"), ret(y), param("x", is("y"))), ret(y)))
	one(let("x", whole(), block(let("x", whole(), just(x), ret(x))), ret(x)), y, let("x", whole(), block(let("x", whole(), just(y), ret(y))), ret(y)))
	// Only what is a name.
	one(ret(api.Atom{Kind: api.AtomInt, Name: "x"}), y, ret(api.Atom{Kind: api.AtomInt, Name: "x"}))
	one(ret(api.Atom{Kind: api.AtomBool, Name: "x", Truth: true}), y, ret(api.Atom{Kind: api.AtomBool, Name: "x", Truth: true}))
	one(ret(api.Atom{Kind: 4, Name: "x"}), y, ret(api.Atom{Kind: 4, Name: "x"}))
	one(ret(api.Atom{Kind: api.AtomVar, Name: "x", Truth: true, Num: api.Int{Neg: true}}), y, ret(y)) // the whole atom goes
	full := api.Atom{Kind: api.AtomVar, Name: "y", Truth: true, Num: api.Int{Neg: true, Digits: []uint32{0, full}}}
	one(ret(x), full, ret(full)) // and comes
	for kind := range 7 {        // its own atom, whatever its Kind
		one(api.Expr{Kind: api.ExprKind(kind), Name: "x", Atom: x}, y, api.Expr{Kind: api.ExprKind(kind), Name: "x", Atom: y})
	}
}

func TestSubstIsDoneAllAtOnce(t *testing.T) {
	x, y, three := atom("x"), atom("y"), digit(3)
	e := let("z", ints(most(name("x"), name("y"))), prim("add", x, y), ret(x))
	both := func(names []string, atoms []api.Atom, a, b api.Atom) {
		t.Helper()
		substs(t, e, names, atoms, let("z", ints(most(tree.Atom(a), tree.Atom(b))), prim("add", a, b), ret(a)), api.OK)
	}
	both([]string{"x", "y"}, []api.Atom{y, x}, y, x)
	both([]string{"y", "x"}, []api.Atom{three, y}, y, three)
	both([]string{"x", "x"}, []api.Atom{y, three}, three, y)
	both([]string{"x", "y", "x"}, []api.Atom{y, y, three}, three, y)
	both([]string{"x", "x"}, []api.Atom{y}, y, y)
	both([]string{"x"}, []api.Atom{three, y}, three, y)
	both([]string{"y"}, nil, x, y)
	both(nil, []api.Atom{three}, x, y)
	both([]string{"z", ""}, []api.Atom{three, x}, x, y)
}

func TestSubstInTypesAndTerms(t *testing.T) {
	of := func(a, want api.Type) {
		t.Helper()
		names, atoms := []string{"x", "y", "o"}, []api.Atom{digit(3), atom("x"), {Kind: 9, Name: "o"}}
		substs(t, api.Expr{Type: []api.Type{whole(), a, a}}, names, atoms, api.Expr{Type: []api.Type{whole(), want, want}}, api.OK)
		substs(t, let("x", a, lam(a, ret(atom("n")), param("x", a)), ret(atom("n"))), names, atoms, let("x", want, lam(want, ret(atom("n")), param("x", want)), ret(atom("n"))), api.OK)
	}
	of(ints(most(name("x"), v())), ints(most(number(3), v())))
	of(base("x", kappa("x", name("y"), name("z"))), base("x", kappa("x", name("x"), name("z"))))
	of(ints(name("o")), ints(api.Term{})) // what is no atom has a zero term
	of(ints(api.Term{Kind: api.TermVar, Name: "x", Kids: []api.Term{name("y")}}), ints(number(3)))
	of(fun(is("x"), param("x", is("x")), param("y", fun(is("y"), param("y", is("y"))))), fun(ints(equals(v(), number(3))), param("x", ints(equals(v(), number(3)))), param("y", fun(is("x"), param("y", is("x"))))))
	// Each refinement: that of a type of functions, too, and those that other types may have all the same.
	odd, want := fun(is("y"), param("x", is("y"))), fun(is("x"), param("x", is("x")))
	odd.Refine, want.Refine, odd.Sort, want.Sort = name("x"), number(3), "x", "x"
	odd.Result, want.Result = append(odd.Result, ints(name("x"))), append(want.Result, ints(number(3)))
	of(odd, want)
	odd.Fun, want.Fun = false, false
	of(odd, want)
	substs(t, let("a", whole(), asserts(most(name("n"), name("x"))), ret(atom("x"))), []string{"x"}, []api.Atom{truth(false)}, let("a", whole(), asserts(most(name("n"), no())), ret(truth(false))), api.OK)
	// v is put for like any name: the words have no other rule for it.
	substs(t, let("v", is("v"), asserts(v()), ret(atom("v"))), []string{"v"}, []api.Atom{atom("n")}, let("v", ints(equals(name("n"), name("n"))), asserts(name("n")), ret(atom("n"))), api.OK)
	substs(t, api.Expr{Type: []api.Type{ints(name("x"))}}, []string{"x"}, []api.Atom{atom("v")}, api.Expr{Type: []api.Type{ints(v())}}, api.OK)
}

func TestSubstInOddExpressions(t *testing.T) {
	for kind := range 7 {
		e := odd(api.ExprKind(kind), example(), odd(api.ExprKind(6-kind), ret(atom("y")), example()))
		for _, n := range []string{"x", "y", "z", "h", "t", "p", "q", "r"} {
			p := putter{names: []string{n, "q"}, atoms: []api.Atom{digit(7), atom("n")}}
			substs(t, e, p.names, p.atoms, p.expr(e), api.OK)
		}
	}
}

// places are expressions with a type or a term at each place where one may be.
func places(r api.Type) []api.Expr {
	at := func(r api.Rhs) api.Expr { return let("x", whole(), r, ret(digit(1))) }
	rhs := lam(whole(), ret(digit(1)))
	inner := api.Expr{Type: []api.Type{whole(), r}}
	rhs.Terms = []api.Term{yes(), r.Refine}
	return []api.Expr{
		inner, {Kind: api.ExprRet, Type: []api.Type{r}}, {Body: []api.Expr{{}, inner}}, {Arms: []api.Arm{{}, {Body: []api.Expr{{}, inner}}}}, {Rhs: []api.Rhs{{}, {Body: []api.Expr{{}, inner}}}},
		at(lam(r, ret(digit(1)))), at(lam(whole(), ret(digit(1)), param("p", whole()), param("q", r))), at(rhs), at(asserts(r.Refine)), at(block(let("y", r, just(digit(1)), ret(digit(1))))),
		{Type: []api.Type{fun(whole(), param("p", fun(r)))}}, {Type: []api.Type{fun(fun(r, param("p", whole())))}}, {Type: []api.Type{{Fun: true, Refine: r.Refine}}}, {Type: []api.Type{{Params: []api.Param{{Type: r}}}}},
	}
}

func TestSubstTakes20000PartsOfEachTerm(t *testing.T) {
	x := []string{"x"}
	for i, e := range places(ints(and(name("x"), wide(19998)))) {
		substs(t, e, x, []api.Atom{atom("n")}, places(ints(and(name("n"), wide(19998))))[i], api.OK)
		substs(t, e, nil, nil, e, api.OK)
	}
	for _, e := range places(ints(and(name("x"), wide(19999)))) {
		substs(t, e, x, []api.Atom{atom("n")}, api.Expr{}, api.ErrGrown)
		substs(t, e, nil, nil, api.Expr{}, api.ErrGrown)
	}
	// Kids of a name go with it.
	large := api.Term{Kind: api.TermVar, Name: "x", Kids: []api.Term{wide(30000)}}
	for i, e := range places(ints(large)) {
		substs(t, e, x, []api.Atom{atom("n")}, places(ints(name("n")))[i], api.OK)
		substs(t, e, []string{"y"}, []api.Atom{atom("n")}, api.Expr{}, api.ErrGrown)
	}
	// It is each term's own limit, not that of all.
	var all []api.Expr
	for range 5 {
		all = append(all, places(ints(wide(20000)))...)
	}
	e := api.Expr{Body: all}
	substs(t, e, x, []api.Atom{atom("n")}, e, api.OK)
}

func TestSubstInAnyExpression(t *testing.T) {
	r := rand.New(rand.NewSource(4))
	changed := 0
	for range 10000 {
		e := someExpr(r, r.Intn(12))
		names := some(r, 4, func() string { return someName(r) })
		atoms := some(r, 4, func() api.Atom { return someAtom(r) })
		p := putter{names: names, atoms: atoms}
		want := p.expr(e)
		substs(t, e, names, atoms, want, api.OK)
		if !same(want, e) {
			changed++
		}
	}
	if changed < 4000 {
		t.Error(changed)
	}
}

// P15.4

func TestSubstOfNamesThatDoNotStandThereAndOfNamesThemselves(t *testing.T) {
	r := rand.New(rand.NewSource(5))
	for range 5000 {
		e := someExpr(r, r.Intn(12))
		substs(t, e, []string{"other", "o2", "X", " "}, []api.Atom{digit(1), someAtom(r), truth(true), atom("x")}, e, api.OK)
	}
	// What a name has beside it goes, where it is put for itself: so names that have nothing.
	e := let("y", ints(most(name("x"), add(v(), number(2)))), prim("add", atom("x"), digit(-3)), either(truth(true), ret(atom("y")), match(atom("l"), arm("nil", example(), "z"))))
	e = let("f", fun(e.Type[0], param("x", is("y"))), lam(is("m"), e, param("m", is("n"))), let("a", whole(), asserts(most(name("x"), v())), e))
	names := []string{"x", "y", "z", "l", "m", "n", "v", "a", "f"}
	substs(t, e, names, mapped2(atom, names), e, api.OK)
	slices.Reverse(names)
	substs(t, e, names, mapped2(atom, names), e, api.OK)
}

func mapped2[A, B any](make func(A) B, l []A) []B {
	var made []B
	for _, one := range l {
		made = append(made, make(one))
	}
	return made
}

func TestWhatIsFreeBehindSubst(t *testing.T) {
	r := rand.New(rand.NewSource(6))
	for range 5000 {
		e := someExpr(r, r.Intn(12))
		names := some(r, 4, func() string { return someName(r) })
		atoms := some(r, 4, func() api.Atom { return pick(r, someAtom(r), atom("new")) })
		made, wrong := tree.Subst(e, names, atoms)
		if wrong != api.OK {
			t.Fatal(wrong)
		}
		known := tree.Free(e)
		for _, a := range atoms {
			known = append(known, a.Name)
		}
		for _, n := range tree.Free(made) {
			if !slices.Contains(known, n) {
				t.Fatal(n, "is free in", shown(made), "made of", shown(e))
			}
		}
	}
}
