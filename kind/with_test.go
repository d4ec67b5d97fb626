package kind_test

import (
	"math/rand"
	"slices"
	"testing"

	"whetstone/api"
	"whetstone/kind"
)

// P14.4: With

// conjuncts are those of a term, in the words of the document.
func conjuncts(a api.Term) []api.Term {
	if a.Kind == api.TermTrue && len(a.Kids) == 0 {
		return nil
	}
	if a.Kind != api.TermAnd {
		return []api.Term{a}
	}
	var l []api.Term
	for _, kid := range a.Kids {
		l = append(l, conjuncts(kid)...)
	}
	return l
}

// more is a type with a term more, in the words of the document.
func more(a api.Type, of api.Term) api.Type {
	all := conjuncts(a.Refine)
	own := len(all)
	for _, t := range conjuncts(of) {
		if !slices.ContainsFunc(all, func(ahead api.Term) bool { return sameTerm(ahead, t) }) {
			all = append(all, t)
		}
	}
	if !isBase(a) || len(all) == own {
		return a
	}
	if len(all) == 1 {
		return base(a.Sort, all[0])
	}
	return base(a.Sort, and(all...))
}

// withs fails, unless a type with a term more is that.
func withs(t *testing.T, a api.Type, of api.Term, want api.Type) {
	t.Helper()
	tells(t, "With of "+shown(a), kind.With(a, of), api.OK, want, api.OK)
}

func TestWithLaysConjunctsBehind(t *testing.T) {
	n, three, small := most(number(0), v()), equals(v(), number(3)), most(v(), name("n"))
	withs(t, ints(n), three, ints(and(n, three)))
	withs(t, ints(and(n, three)), three, ints(and(n, three)))
	withs(t, ints(n), and(three, small, three), ints(and(n, three, small)))
	withs(t, ints(n), and(small, and(), and(and(n), and(three, and(small)))), ints(and(n, small, three)))
	withs(t, ints(and(three, and(and(n)))), small, ints(and(three, n, small)))
	// Nothing more: as it was, nested as it was.
	withs(t, ints(and(three, and(and(n)))), and(n, three), ints(and(three, and(and(n)))))
	for _, none := range []api.Term{yes(), and(), and(yes(), and(and(), yes())), n, and(n, yes(), n), {Kind: api.TermTrue, Name: "odd", Num: api.Int{Neg: true}}, {Kind: api.TermAnd, Name: "odd", Kids: []api.Term{n}}} {
		withs(t, ints(n), none, ints(n))
		withs(t, base("list", and(n)), none, base("list", and(n)))
	}
	withs(t, ints(yes()), and(), ints(yes()))
	withs(t, ints(and(yes())), yes(), ints(and(yes())))
	// One alone is no conjunction; those of the type that come twice stay.
	withs(t, ints(yes()), three, ints(three))
	withs(t, ints(and(yes(), and())), and(three, three), ints(three))
	withs(t, ints(and(n, n)), three, ints(and(n, n, three)))
	withs(t, ints(and(n, n)), n, ints(and(n, n)))
}

func TestWhatConjunctsAre(t *testing.T) {
	n, three := most(number(0), v()), equals(v(), number(3))
	for _, one := range []api.Term{no(), {}, number(0), or(), or(n), or(and(n, three)), not(yes()), not(and(n, three)), kids(api.TermTrue, n), kids(api.TermIff, and(n), n), kappa("k"), kids(15, n), kids(api.TermFalse, n), {Kind: api.TermNum, Num: api.Int{Neg: true}}} {
		withs(t, ints(n), one, ints(and(n, one)))
		withs(t, ints(one), n, ints(and(one, n)))
		withs(t, base("", yes()), and(one, one), base("", one))
		withs(t, ints(and(one)), one, ints(and(one)))
	}
	// Two are one just if they are the same.
	withs(t, ints(most(number(0), name("x"))), most(number(0), name("y")), ints(and(most(number(0), name("x")), most(number(0), name("y")))))
	withs(t, ints(number(0)), api.Term{Kind: api.TermNum, Num: api.Int{Digits: []uint32{0}}}, ints(and(number(0), api.Term{Kind: api.TermNum, Num: api.Int{Digits: []uint32{0}}})))
	withs(t, ints(number(0)), api.Term{Kind: api.TermNum, Num: api.Int{Digits: []uint32{}}}, ints(number(0)))
}

func TestWithOfOtherTypesIsTheType(t *testing.T) {
	n := most(number(0), v())
	f := fun(ints(and(and(n), yes())), param("f", fun(plain("int"), param("x", ints(n)))), param("y", plain("gone")))
	withs(t, f, n, f)
	withs(t, fun(f), no(), fun(f))
	for _, odd := range oddTypes() {
		withs(t, odd, n, odd)
	}
}

func TestWithOfAnyType(t *testing.T) {
	r := rand.New(rand.NewSource(5))
	changed := 0
	for range 10000 {
		a, of := someType(r, r.Intn(3)), someFormula(r, r.Intn(9))
		want := more(a, of)
		withs(t, a, of, want)
		if !sameType(want, a) {
			changed++
		}
	}
	if changed < 2000 {
		t.Error(changed)
	}
}
