package tree_test

import (
	"cmp"
	"math/rand"
	"reflect"
	"runtime/debug"
	"slices"
	"strconv"
	"testing"
	"time"

	"whetstone/api"
	"whetstone/tree"
)

// R1: deeper than calls may be nested, and wide.

// deep are expressions with inner so deep in them, each in other rows.
func deep(depth int, inner api.Expr) []api.Expr {
	const ways = 6
	var l []api.Expr
	for way := range ways {
		e := inner
		for i := range depth {
			n := "x" + strconv.Itoa(i)
			switch way {
			case 0:
				e = let(n, ints(most(name("n"), v())), prim("add", atom("n"), digit(1)), e)
			case 1:
				e = either(atom("n"), ret(digit(1)), e)
			case 2:
				e = match(atom("n"), arm("cons", e, n, "t"))
			case 3:
				e = let(n, whole(), block(e), ret(atom(n)))
			case 4:
				e = let("f", whole(), lam(whole(), e, param(n, is("n"))), ret(atom("f")))
			case 5:
				e = let("x", whole(), just(atom("n")), e)
			}
		}
		l = append(l, e)
	}
	return l
}

// deepType is inner within so many types of functions.
func deepType(depth int, inner api.Type) api.Type {
	for i := range depth {
		if i%2 == 0 {
			inner = fun(inner, param("x", whole()))
		} else {
			inner = fun(whole(), param("f", inner), param("y", whole()))
		}
	}
	return inner
}

func deepTerm(depth int, inner api.Term) api.Term {
	for range depth {
		inner = and(inner)
	}
	return inner
}

func TestDeepExpressions(t *testing.T) {
	defer debug.SetMaxStack(debug.SetMaxStack(1 << 20))
	const many = 20000
	inner := let("w", is("n"), prim("add", atom("m"), atom("n")), ret(atom("w")))
	other := let("w", is("n"), prim("add", atom("k"), atom("n")), ret(atom("w")))
	changed := deep(many, other)
	for i, e := range deep(many, inner) {
		if n := tree.Count(e); n < 2*many || n > 5*many+5 {
			t.Error(i, n)
		}
		if free := tree.Free(e); !slices.Equal(free, []string{"m", "n"}) {
			t.Error(i, free[:min(len(free), 9)])
		}
		if tree.Same(e, changed[i]) || !tree.Same(e, e) {
			t.Error(i, "Same")
		}
		made, wrong := tree.Subst(e, []string{"m"}, []api.Atom{atom("k")})
		if wrong != api.OK || !tree.Same(made, changed[i]) {
			t.Error(i, wrong)
		}
		p := tree.Copy(api.Program{Funs: []api.Fun{{}, {Body: e}}})
		if !tree.Same(p.Funs[1].Body, e) || tree.Size(p) != tree.Count(e)+1 {
			t.Error(i, "Copy")
		}
	}
}

func TestDeepTypesTermsAndProofs(t *testing.T) {
	defer debug.SetMaxStack(debug.SetMaxStack(1 << 20))
	const many = 20000
	e := let("x", deepType(many, is("m")), asserts(deepTerm(19990, name("m"))), ret(atom("x")))
	other := let("x", deepType(many, is("k")), asserts(deepTerm(19990, name("k"))), ret(atom("x")))
	if free := tree.Free(e); !slices.Equal(free, []string{"m"}) {
		t.Error(len(free))
	}
	made, wrong := tree.Subst(e, []string{"m"}, []api.Atom{atom("k")})
	if wrong != api.OK || !tree.Same(made, other) || tree.Same(made, e) {
		t.Error(wrong)
	}
	for _, great := range []api.Expr{let("x", deepType(many, ints(wide(20001))), just(digit(1)), e), let("x", whole(), asserts(deepTerm(many, yes())), e)} {
		if _, wrong := tree.Subst(great, nil, nil); wrong != api.ErrGrown {
			t.Error(wrong)
		}
		if p := tree.Copy(api.Program{Funs: []api.Fun{{Body: great}}}); !tree.Same(p.Funs[0].Body, great) {
			t.Error("Copy")
		}
	}
	steps := api.Proof{}
	for i := range many {
		steps = api.Proof{Kind: api.ProofPart, At: []int{i}, Kids: []api.Proof{{}, steps}}
	}
	p := tree.Copy(api.Program{Proofs: []api.Proof{steps}})
	row := p.Proofs
	for i := many - 1; i >= 0; i-- {
		last := row[len(row)-1]
		if last.At[0] != i || len(last.Kids) != 2 {
			t.Fatal(i)
		}
		row = last.Kids
	}
}

func TestWideExpressions(t *testing.T) {
	const many = 40000
	var e api.Expr
	var names []string
	var atoms []api.Atom
	r := lam(whole(), ret(atom("x7")))
	for i := range many {
		n := "x" + strconv.Itoa(i)
		names, atoms = append(names, n), append(atoms, digit(int64(i)))
		r.Params, r.Result, r.Terms = append(r.Params, param(n, is("x8"))), append(r.Result, is("x9")), append(r.Terms, name("t"))
		r.Atoms, r.Body, e.Body = append(r.Atoms, atom("m")), append(r.Body, ret(atom(n))), append(e.Body, ret(atom("b")))
		e.Arms = append(e.Arms, arm("c", ret(atom(n)), n))
	}
	e.Rhs = []api.Rhs{r}
	if free := tree.Free(e); !slices.Equal(free, []string{"b", "m", "t", "x8"}) {
		t.Error(free[:min(len(free), 9)])
	}
	if n := tree.Count(e); n != 1+many+3*2*many+2 {
		t.Error(n)
	}
	made, wrong := tree.Subst(e, names, atoms)
	if wrong != api.OK || made.Arms[5].Body[0].Atom.Kind != api.AtomInt || !tree.Same(made, made) || tree.Same(made, e) {
		t.Error(wrong)
	}
	again := tree.Copy(api.Program{Funs: []api.Fun{{Body: made}}}).Funs[0].Body
	if !tree.Same(made, again) {
		t.Error("Copy")
	}
}

// Of many names only those that stand in a term cost anything there.
func TestManyNamesForManyTerms(t *testing.T) {
	const many = 30000
	e := ret(atom("x0"))
	var names []string
	var atoms []api.Atom
	for i := range many {
		n := "x" + strconv.Itoa(i)
		e = let(n, is(n), just(atom(n)), e)
		names, atoms = append(names, n), append(atoms, digit(int64(i)))
	}
	from := time.Now()
	made, wrong := tree.Subst(e, names, atoms)
	if wrong != api.OK || len(tree.Free(made)) != 0 || len(tree.Free(e)) != many {
		t.Error(wrong, len(tree.Free(e)))
	}
	if took := time.Since(from); took > 20*time.Second {
		t.Error(took)
	}
}

// R3, R4, R6

// span is the memory of a list, with the room behind it.
type span struct{ from, to uintptr }

// spans are those of all lists of a thing.
func spans(a reflect.Value) []span {
	var l []span
	switch a.Kind() {
	case reflect.Struct:
		for i := range a.NumField() {
			l = append(l, spans(a.Field(i))...)
		}
	case reflect.Slice:
		if a.Cap() > 0 {
			l = append(l, span{a.Pointer(), a.Pointer() + uintptr(a.Cap())*a.Type().Elem().Size()})
		}
		for i := range a.Len() {
			l = append(l, spans(a.Index(i))...)
		}
	}
	return l
}

func spansOf[T any](a T) []span { return spans(reflect.ValueOf(a)) }

// apart tells whether no two of these memories share a byte.
func apart(all ...span) bool {
	slices.SortFunc(all, func(a, b span) int { return cmp.Compare(a.from, b.from) })
	for i := 1; i < len(all); i++ {
		if all[i].from < all[i-1].to {
			return false
		}
	}
	return true
}

// untouched tells whether what was laid anew with that room is as it was, with the room behind its lists.
func untouched[T any](a, was T, room int) bool {
	return untouchedValue(reflect.ValueOf(a), reflect.ValueOf(was), room)
}

func untouchedValue(a, was reflect.Value, room int) bool {
	switch a.Kind() {
	case reflect.Struct:
		for i := range a.NumField() {
			if !untouchedValue(a.Field(i), was.Field(i), room) {
				return false
			}
		}
		return true
	case reflect.Slice:
		if a.Len() != was.Len() || a.Cap() < a.Len()+room {
			return false
		}
		for i := range a.Len() {
			if !untouchedValue(a.Index(i), was.Index(i), room) {
				return false
			}
		}
		noise := reflect.New(a.Type().Elem()).Elem()
		turn(noise)
		for i := range room {
			if !sameValue(a.Slice(0, a.Len()+room).Index(a.Len()+i), noise) {
				return false
			}
		}
		return true
	}
	return a.Equal(was)
}

func TestNothingGivenIsChangedOrKept(t *testing.T) {
	r := rand.New(rand.NewSource(9))
	const room = 2
	for range 1000 {
		wasE, wasP := someExpr(r, r.Intn(12)), someProgram(r)
		wasNames, wasAtoms := some(r, 5, func() string { return someName(r) }), some(r, 5, func() api.Atom { return someAtom(r) })
		e, p, names, atoms := anew(wasE, room), anew(wasP, room), anew(wasNames, room), anew(wasAtoms, room)
		given := slices.Concat(spansOf(e), spansOf(p), spansOf(names), spansOf(atoms))
		for range 2 {
			made, _ := tree.Subst(e, names, atoms)
			copied, free := tree.Copy(p), tree.Free(e)
			terms := and(mapped2(tree.Atom, atoms)...)
			tree.Same(e, made)
			tree.Count(e, made)
			tree.Size(p, copied)
			told := slices.Concat(spansOf(made), spansOf(copied), spansOf(free), spansOf(terms), given)
			if !apart(told...) {
				t.Fatal("two lists share memory:", shown(e), shown(p))
			}
		}
		if !untouched(e, wasE, room) || !untouched(p, wasP, room) || !untouched(names, wasNames, room) || !untouched(atoms, wasAtoms, room) {
			t.Fatal("what was given is changed:", shown(wasE), shown(wasP))
		}
	}
}

func TestTheSameIsToldEachTime(t *testing.T) {
	r := rand.New(rand.NewSource(10))
	for range 300 {
		e, atoms := someExpr(r, 12), []api.Atom{someAtom(r), someAtom(r), someAtom(r)}
		names := []string{someName(r), someName(r), someName(r)}
		first, wrong := tree.Subst(e, names, atoms)
		free := tree.Free(e)
		for range 5 {
			again, wrongAgain := tree.Subst(e, names, atoms)
			if !same(first, again) || wrong != wrongAgain || !slices.Equal(free, tree.Free(e)) {
				t.Fatal(shown(e))
			}
		}
	}
}

// emptied is a thing with lists that have no elements where it has nil ones.
func emptied[T any](a T) T {
	made := anew(a, 0)
	empty(reflect.ValueOf(&made).Elem())
	return made
}

func empty(a reflect.Value) {
	switch a.Kind() {
	case reflect.Struct:
		for i := range a.NumField() {
			empty(a.Field(i))
		}
	case reflect.Slice:
		if a.Len() == 0 {
			a.Set(reflect.MakeSlice(a.Type(), 0, 3))
		}
		for i := range a.Len() {
			empty(a.Index(i))
		}
	}
}

func TestEmptyAndNilListsAreOne(t *testing.T) {
	r := rand.New(rand.NewSource(11))
	for range 1000 {
		e, p := someExpr(r, r.Intn(12)), someProgram(r)
		bare, bareP := emptied(e), emptied(p)
		sames(t, e, bare, true)
		if tree.Count(bare) != tree.Count(e) || tree.Size(bareP) != tree.Size(p) || !slices.Equal(tree.Free(bare), tree.Free(e)) {
			t.Fatal(shown(e), shown(p))
		}
		tells(t, "Copy", tree.Copy(bareP), p)
		substs(t, bare, []string{}, []api.Atom{}, e, api.OK)
		tells(t, "Atom", tree.Atom(emptied(digit(0))), number(0))
	}
	if tree.Count([]api.Expr{}...) != 0 || tree.Size([]api.Program{}...) != 0 {
		t.Error("Count of none")
	}
}
