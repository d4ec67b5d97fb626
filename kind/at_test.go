package kind_test

import (
	"math/rand"
	"slices"
	"testing"

	"whetstone/api"
	"whetstone/kind"
	"whetstone/term"
)

// P14.3

// ats fails, unless that is what a type says of a term in the world.
func ats(t *testing.T, a api.Type, of, want api.Term, wantE api.Errno) {
	t.Helper()
	got, e := kind.At(kappas(), a, of)
	tellsTerm(t, "At "+shown(a), got, e, want, wantE)
}

func TestAtPutsATermForTheValue(t *testing.T) {
	n, x := name("n"), name("x")
	sum := add(n, v())
	ats(t, ints(most(number(0), v())), n, most(number(0), n), api.OK)
	ats(t, ints(most(v(), v())), sum, most(sum, sum), api.OK) // what is put in is not looked at again
	ats(t, base("bool", v()), not(v()), not(v()), api.OK)
	ats(t, plain("int"), n, yes(), api.OK)
	ats(t, ints(and(equals(n, x), most(x, v()))), number(-3), and(equals(n, x), most(x, number(-3))), api.OK)
	ats(t, base("list", equals(app("tag", v()), number(0))), app("cons.1", name("l")), equals(app("tag", app("cons.1", name("l"))), number(0)), api.OK)
	ats(t, api.Type{}, n, api.Term{}, api.OK) // a base type whose Refine is no truth
	ats(t, base("gone", number(1)), n, number(1), api.OK)
	ats(t, ints(app("v", v())), n, app("v", n), api.OK)
	ats(t, ints(api.Term{Kind: api.TermVar, Name: "v", Kids: []api.Term{x, v()}}), n, n, api.OK)
	ats(t, ints(v()), kappa("none"), kappa("none"), api.OK) // the term's own kappas stay
}

func TestAtPutsKappasIn(t *testing.T) {
	n := name("n")
	above := func(a, b api.Term) api.Term { return most(add(a, number(1)), b) }
	ats(t, ints(kappa("above", v(), name("x"))), n, above(n, name("x")), api.OK)
	ats(t, ints(and(kappa("none"), kappa("above", kappa("sum", v()), v()))), n, and(no(), above(add(n, n), n)), api.OK)
	ats(t, ints(kappa("value")), n, most(number(0), n), api.OK) // the v of a body is replaced, too
	ats(t, ints(kappa("open", v())), n, most(n, n), api.OK)
}

func TestAtsErrors(t *testing.T) {
	n := name("n")
	for _, odd := range append(oddTypes(), fun(plain("int"))) {
		ats(t, odd, n, api.Term{}, api.ErrType)
		odd.Refine = kappa("lost")
		if !isBase(odd) {
			ats(t, odd, n, api.Term{}, api.ErrType)
		}
	}
	ats(t, ints(kappa("lost")), n, api.Term{}, api.ErrName)
	ats(t, ints(and(v(), kappa("above", n))), wide(20000), api.Term{}, api.ErrMany)
	ats(t, ints(kappa("nested")), n, api.Term{}, api.ErrSort)
	ats(t, ints(kappa("great", wide(133))), n, and(slices.Repeat([]api.Term{wide(133)}, 150)...), api.OK)
	ats(t, ints(kappa("great", wide(134))), n, api.Term{}, api.ErrGrown)
	ats(t, ints(wide(20001)), n, api.Term{}, api.ErrGrown)
	ats(t, ints(wide(20000)), n, wide(20000), api.OK)
	ats(t, ints(and(v(), v(), v())), wide(6667), api.Term{}, api.ErrGrown)
	ats(t, ints(and(v(), v(), v())), wide(6666), and(wide(6666), wide(6666), wide(6666)), api.OK)
	ats(t, ints(v()), wide(20000), wide(20000), api.OK)
	ats(t, ints(v()), wide(20001), api.Term{}, api.ErrGrown)
	ats(t, ints(n), wide(20001), n, api.OK)
}

func TestAtOfAnyType(t *testing.T) {
	r := rand.New(rand.NewSource(3))
	for range 5000 {
		a, of := someType(r, r.Intn(3)), pick(r, someFormula(r, 3), someNumber(r), api.Term{}, number(2))
		if !isBase(a) {
			ats(t, a, of, api.Term{}, api.ErrType)
			continue
		}
		refine, e := term.Expand(kappas(), a.Refine)
		if e != api.OK {
			ats(t, a, of, api.Term{}, e)
			continue
		}
		want, e := term.Subst(refine, []string{"v"}, []api.Term{of})
		ats(t, a, of, want, e)
	}
}
