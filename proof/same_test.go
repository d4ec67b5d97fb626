package proof_test

import (
	"slices"
	"testing"

	"whetstone/api"
	"whetstone/proof"
)

// P9.1: equalities.

func TestSame(t *testing.T) {
	s, u, v := name("s"), name("t"), name("u")
	facts := []api.Term{equals(s, u), equals(v, u), not(equals(s, v)), no()}
	end := clash(5, 2)
	shows(t, same(s, v, places(0, 1), end), facts...)
	shows(t, same(s, v, places(0, 0, 0, 1, 1, 1), end), facts...)
	// What is laid is of a and b, in their order, behind the facts.
	fails(t, same(v, s, places(1, 0), end), facts...)
	fails(t, same(s, u, places(0), end), facts...)
	fails(t, same(s, v, places(0, 1), clash(6, 2)), facts...)
	fails(t, same(s, v, places(0, 1), falsehood(5)), facts...)
	// No path.
	for _, at := range [][]int{nil, {0}, {1}, {1, 0}, {0, 1, 1}, {0, 2}, {0, 1, 2}, {0, 1, 3}, {0, 1, 5}, {0, 1, -1}, {-1}, {most}, {4}, {0, 4}} {
		fails(t, same(s, v, at, falsehood(3)), facts...)
	}
	fails(t, same(s, name("o"), places(0, 1), falsehood(3)), facts...)
	fails(t, same(s, laden(v), places(0, 1), falsehood(3)), facts...)
	fails(t, same(laden(s), v, places(0, 1), falsehood(3)), facts...)
	// Numbers, which sums take then.
	n, m, k := name("n"), name("m"), name("k")
	shows(t, same(n, k, places(0, 1), farkas(places(4, 2), "-1", "1")), equals(n, m), equals(m, k), atMost(add(n, number(1)), k))
	fails(t, same(n, k, places(0, 1), farkas(places(4, 2), "1", "1")), equals(n, m), equals(m, k), atMost(add(n, number(1)), k))
	// Along what was laid before.
	shows(t, same(s, v, places(0, 1), same(v, s, places(5), falsehood(3))), facts...)
	fails(t, same(v, s, places(5), same(s, v, places(0, 1), falsehood(3))), facts...)
}

// Along no places: of each term that has a sort, and of no other one.
func TestSameAlongNoPlaces(t *testing.T) {
	s := name("s")
	for _, a := range append(numbers(), s, laden(s), app("FORK.0", s), name("p"), app("FORK.2", s), yes(), no(), equals(s, s), iff(yes(), no()), and(), laden(or())) {
		shows(t, same(a, a, nil, falsehood(0)), no())
		fails(t, same(a, a, places(0), falsehood(0)), no())
		fails(t, same(a, name("k"), nil, falsehood(0)), no())
		fails(t, same(name("k"), a, nil, falsehood(0)), no())
		fails(t, same(name("none"), a, nil, falsehood(0)), no())
		for _, bad := range []api.Term{add(a, yes()), app("none", a), not(a, a), and(a, name("none")), kids(noKind, a), kids(api.TermKappa, a), equals(name("p"), a), atMost(s, a)} {
			fails(t, same(bad, bad, nil, falsehood(0)), no())
		}
	}
	for _, bad := range []api.Term{{}, name("none"), name(""), app("tag", name("n")), kids(api.TermNum, number(1)), {Kind: api.TermNum, Num: api.Int{Neg: true}}} {
		fails(t, same(bad, bad, nil, falsehood(0)), no())
	}
	// Sorts are those of the scope, and of datas.
	w := odds()
	for a, ok := range map[string]bool{"late": true, "turned": true, "e": true, "odd": false, "s": true, "n": true, "u": false} {
		p := same(name(a), name(a), nil, falsehood(0))
		if e := proof.Check(w.datas, w.obliged(no(), no()), p); e != when(ok) {
			t.Error(a, e)
		}
		if e := proof.Check(nil, w.obliged(no(), no()), p); e != when(a == "late" || a == "n") {
			t.Error(a, e)
		}
	}
	// What is laid is an equality: on which paths go, and one stays.
	shows(t, same(s, s, nil, same(s, s, places(2, 2), falsehood(0))), no())
	shows(t, same(s, s, nil, clash(2, 0)), not(equals(s, s)))
	fails(t, same(name("p"), name("p"), nil, clash(2, 0)), not(name("p")))
	fails(t, same(name("p"), name("p"), nil, apply(2, "tag", falsehood(0))), no())
}

func TestApply(t *testing.T) {
	s, u := name("s"), name("t")
	facts := []api.Term{equals(s, u), no(), equals(name("n"), name("m")), or(equals(s, u))}
	// Of a function to int.
	for _, f := range []string{"tag", "FORK.1"} {
		one := slices.Concat(facts[:1], []api.Term{atMost(add(app(f, s), number(1)), app(f, u))})
		shows(t, apply(0, f, farkas(places(1, 3), "1", "-1")), one...)
		fails(t, apply(0, f, farkas(places(1, 3), "1", "1")), one...)
		fails(t, apply(0, f, farkas(places(1, 4), "1", "-1")), one...)
	}
	fails(t, apply(0, "tag", farkas(places(1, 3), "1", "-1")), equals(s, u), atMost(add(app("FORK.1", s), number(1)), app("FORK.1", u)))
	// Of one to data, and on.
	shows(t, apply(0, "FORK.0", clash(3, 1)), equals(s, u), not(equals(app("FORK.0", s), app("FORK.0", u))))
	fails(t, apply(0, "FORK.0", clash(3, 1)), equals(u, s), not(equals(app("FORK.0", s), app("FORK.0", u))))
	shows(t, apply(0, "FORK.3", apply(3, "POT.0", clash(4, 1))), equals(s, u), not(equals(app("POT.0", app("FORK.3", s)), app("POT.0", app("FORK.3", u)))))
	fails(t, apply(0, "FORK.3", apply(3, "FORK.0", clash(4, 1))), equals(s, u), not(equals(app("POT.0", app("FORK.3", s)), app("POT.0", app("FORK.3", u)))))
	// Of one to bool: the conjunction, as one fact.
	a, b := app("FORK.2", s), app("FORK.2", u)
	truths := []api.Term{equals(s, u), a, not(b)}
	shows(t, apply(0, "FORK.2", part(4, cases(5, clash(1, 7), clash(7, 2)))), truths...)
	fails(t, apply(0, "FORK.2", part(4, cases(6, clash(1, 7), clash(7, 2)))), truths...)
	fails(t, apply(0, "FORK.2", cases(4, clash(1, 7), clash(7, 2))), truths...)
	shows(t, apply(0, "FORK.2", part(4, cases(6, clash(1, 7), clash(7, 2)))), equals(s, u), b, not(a))
	// Which can not be.
	for _, f := range []string{"tag", "FORK.0", "FORK.1", "FORK.2", "FORK.3"} {
		shows(t, apply(0, f, falsehood(1)), facts...)
		for _, at := range []int{1, 2, 3, 4, 5, -1, most, -most - 1} {
			fails(t, apply(at, f, falsehood(1)), facts...)
		}
	}
	for _, f := range []string{"", "none", "FORK.4", "FORK", "POT.0", "LEAF.0", "tag ", "FORK.-1"} {
		fails(t, apply(0, f, falsehood(1)), facts...)
	}
	// Functions are those of datas, sorts those of the scope.
	w := odds()
	for f, ok := range map[string]bool{"ODD.0": false, "ODD.1": true, "POT.0": true, "POT.1": true, "LEAF.0": false, "INT.0": false, "tag": true} {
		if e := proof.Check(w.datas, w.obliged(no(), equals(name("o"), name("o")), no()), apply(0, f, falsehood(1))); e != when(ok) {
			t.Error(f, e)
		}
	}
}

// A path goes along what the steps ahead laid, and not along what is laid elsewhere.
func TestEqualitiesWithinWays(t *testing.T) {
	s, u, v := name("s"), name("t"), name("u")
	facts := []api.Term{or(equals(s, u), equals(u, v)), not(equals(app("tag", s), number(0))), equals(app("tag", u), number(0)), equals(app("tag", v), number(0)), not(equals(s, v)), equals(s, v)}
	one := clash(5, 4)
	shows(t, cases(0, same(s, u, places(7), one), same(u, v, places(7), one)), facts...)
	fails(t, cases(0, same(s, u, places(7), one), same(s, u, places(7), one)), facts...)
	fails(t, cases(0, same(u, v, places(7), one), same(u, v, places(7), one)), facts...)
	fails(t, cases(0, same(s, u, places(7), one), same(u, v, places(8), one)), facts...)
}
