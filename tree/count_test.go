package tree_test

import (
	"math/rand"
	"slices"
	"testing"

	"whetstone/api"
	"whetstone/tree"
)

// P15.1: Count, Size, Pure

// parts are those of an expression, in the words of the document.
func parts(e api.Expr) []api.Expr {
	l := []api.Expr{e}
	for _, body := range e.Body {
		l = append(l, parts(body)...)
	}
	for _, a := range e.Arms {
		for _, body := range a.Body {
			l = append(l, parts(body)...)
		}
	}
	for _, r := range e.Rhs {
		for _, body := range r.Body {
			l = append(l, parts(body)...)
		}
	}
	return l
}

// atoms are those of an expression, in the words of the document.
func atoms(e api.Expr) []api.Atom {
	var l []api.Atom
	for _, part := range parts(e) {
		if part.Kind == api.ExprRet || part.Kind == api.ExprIf || part.Kind == api.ExprMatch {
			l = append(l, part.Atom)
		}
		for _, r := range part.Rhs {
			l = append(l, r.Atoms...)
		}
	}
	return l
}

func counts(t *testing.T, want int, l ...api.Expr) {
	t.Helper()
	if got := tree.Count(l...); got != want {
		t.Fatal("Count of", shown(l), "is", got, "and not", want)
	}
}

// example is that of the document.
func example() api.Expr {
	return let("x", whole(), prim("add", atom("y"), digit(1)), ret(atom("x")))
}

func TestCountOfPartsAndAtoms(t *testing.T) {
	x := ret(atom("x"))
	counts(t, 5, example())
	counts(t, 0)
	counts(t, 2, x)
	counts(t, 2, ret(digit(7)))
	counts(t, 2, ret(truth(false)))
	counts(t, 2, ret(api.Atom{})) // an atom of no kind is one
	counts(t, 6, either(atom("p"), x, x))
	counts(t, 2, match(atom("l")))
	counts(t, 6, match(atom("l"), arm("nil", x), arm("cons", x, "a", "b")))
	counts(t, 3, let("x", fun(is("y"), param("y", is("z"))), just(atom("y")), api.Expr{}))
	counts(t, 5, let("f", whole(), lam(is("y"), x, param("y", is("y"))), x))
	counts(t, 5, let("b", whole(), block(x), x))
	counts(t, 3, let("b", whole(), asserts(name("n")), x))
	counts(t, 3, let("b", whole(), call(), x))
	counts(t, 5+2+5, example(), x, example())
}

func TestCountOfOddExpressions(t *testing.T) {
	counts(t, 1, api.Expr{})
	counts(t, 1, api.Expr{Atom: atom("x")}) // not its Atom
	counts(t, 1, api.Expr{Kind: api.ExprLet, Atom: atom("x"), Type: []api.Type{is("x"), is("x")}})
	counts(t, 1, api.Expr{Kind: 5, Atom: atom("x")})
	one, two := ret(atom("a")), example()
	for kind, atoms := range map[api.ExprKind]int{0: 3, api.ExprLet: 3, api.ExprRet: 4, api.ExprIf: 4, api.ExprMatch: 4, 5: 3, 255: 3} {
		counts(t, 1+atoms+3*2+4*5, odd(kind, one, two)) // its bodies stand two by two in it, and one once more
	}
}

func TestCountOfAnyExpressions(t *testing.T) {
	r := rand.New(rand.NewSource(1))
	for range 3000 {
		l := some(r, 3, func() api.Expr { return someExpr(r, r.Intn(20)) })
		want := 0
		for _, e := range l {
			want += len(parts(e)) + len(atoms(e))
		}
		counts(t, want, l...)
	}
}

func TestSizeIsThatOfAllBodies(t *testing.T) {
	r := rand.New(rand.NewSource(2))
	if got := tree.Size(); got != 0 {
		t.Error(got)
	}
	if got := tree.Size(api.Program{}, api.Program{Kappas: []api.Kappa{{Body: wide(9)}}}); got != 0 {
		t.Error(got)
	}
	main := api.Fun{Name: "main", Params: []api.Param{param("n", is("n"))}, Result: is("n"), Body: example()}
	p := api.Program{Funs: []api.Fun{main, {Body: ret(digit(1))}, {}}, Proofs: []api.Proof{{}}}
	if got := tree.Size(p); got != 5+2+1 {
		t.Error(got)
	}
	if got := tree.Size(p, api.Program{}, p); got != 2*(5+2+1) {
		t.Error(got)
	}
	for range 500 {
		l := some(r, 3, func() api.Program { return someProgram(r) })
		want := 0
		for _, p := range l {
			for _, f := range p.Funs {
				want += tree.Count(f.Body)
			}
		}
		if got := tree.Size(l...); got != want {
			t.Fatal(got, "and not", want)
		}
	}
}

func TestPrimsAndConsArePure(t *testing.T) {
	for kind := range 256 {
		r := lam(whole(), example(), param("p", whole()))
		for _, r := range []api.Rhs{{}, just(atom("x")), prim("div", digit(1), digit(0)), r, asserts(no())} {
			r.Kind = api.RhsKind(kind)
			want := slices.Contains([]api.RhsKind{api.RhsPrim, api.RhsCon}, r.Kind)
			if tree.Pure(r) != want {
				t.Error(kind, !want)
			}
		}
	}
}
