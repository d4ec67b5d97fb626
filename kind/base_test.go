package kind_test

import (
	"math/rand"
	"testing"

	"whetstone/api"
	"whetstone/kind"
)

// P14.1

func TestTruthOfNoneOfOneAndOfMore(t *testing.T) {
	n := most(number(0), name("n"))
	odd := api.Term{Kind: api.TermNum, Name: "odd", Num: api.Int{Neg: true, Digits: []uint32{0, full}}, Kids: []api.Term{{}}}
	for _, one := range []api.Term{n, yes(), no(), and(), and(n, n), and(n), {}, odd, number(5), kids(api.TermTrue, n)} {
		tellsTerm(t, "Truth of one", kind.Truth(one), api.OK, one, api.OK)
		tellsTerm(t, "Truth of one and true", kind.Truth(one, yes()), api.OK, and(one, yes()), api.OK)
		tellsTerm(t, "Truth of one twice, and none", kind.Truth(one, one, and()), api.OK, and(one, one, and()), api.OK)
	}
	tellsTerm(t, "Truth of none", kind.Truth(), api.OK, yes(), api.OK)
	tellsTerm(t, "Truth of conjunctions", kind.Truth(and(n), and(and(), n), n), api.OK, and(and(n), and(and(), n), n), api.OK)
}

func TestBaseIsOfThatSort(t *testing.T) {
	n := most(number(0), v())
	for _, sort := range []string{"int", "bool", "list", "", "gone", "->", "A b", "\xff"} {
		tells(t, "Base of none", kind.Base(sort), api.OK, base(sort, yes()), api.OK)
		tells(t, "Base of one", kind.Base(sort, n), api.OK, base(sort, n), api.OK)
		tells(t, "Base of two", kind.Base(sort, n, no()), api.OK, base(sort, and(n, no())), api.OK)
		tells(t, "Base of three", kind.Base(sort, yes(), and(n), yes()), api.OK, base(sort, and(yes(), and(n), yes())), api.OK)
	}
	r := rand.New(rand.NewSource(1))
	for range 300 {
		var l []api.Term
		for range r.Intn(5) {
			l = append(l, someFormula(r, 5))
		}
		want := and(l...)
		if len(l) == 0 {
			want = yes()
		}
		if len(l) == 1 {
			want = l[0]
		}
		tellsTerm(t, "Truth", kind.Truth(l...), api.OK, want, api.OK)
		tells(t, "Base", kind.Base("list", l...), api.OK, base("list", want), api.OK)
	}
}
