package norm_test

import (
	"testing"

	"whetstone/api"
	"whetstone/norm"
)

// P7.1

// denials are what TermNot may stand ahead of in a literal; literals are all others.
func denials() []api.Term {
	x, y := name("x"), name("y")
	return []api.Term{x, name(""), app("f", x), app("", y), app("tag", number(1)), equals(x, y), equals(kappa("K"), not())}
}

func literals() []api.Term {
	l := append(denials(), yes(), no(), most(name("x"), name("y")), most(api.Term{}, and()))
	for _, t := range denials() {
		l = append(l, not(t))
	}
	return l
}

func TestLiterals(t *testing.T) {
	for _, a := range literals() {
		for _, a := range []api.Term{a, laden(a)} {
			if !norm.Literal(a) || !norm.Pushed(a) {
				t.Error("no literal:", short(a))
			}
		}
	}
	for _, a := range denials() {
		if !norm.Literal(not(laden(a))) || !norm.Literal(laden(not(a))) {
			t.Error("no literal:", short(not(a)))
		}
	}
}

// All kinds, those that there are not too, with as many kids as they have, and others.
func TestKindsAndKidsOfLiterals(t *testing.T) {
	many := map[api.TermKind]int{api.TermTrue: 0, api.TermFalse: 0, api.TermVar: 0, api.TermApp: 1, api.TermLe: 2, api.TermEq: 2}
	denied := map[api.TermKind]int{api.TermVar: 0, api.TermApp: 1, api.TermEq: 2}
	is := func(many map[api.TermKind]int, kind api.TermKind, n int) bool {
		want, known := many[kind]
		return known && want == n
	}
	for k := range 256 {
		kind := api.TermKind(k)
		for n := range 4 {
			a := kids(kind, times(n, name("x"))...)
			want := is(many, kind, n) || kind == api.TermNot && n == 1
			if norm.Literal(a) != want {
				t.Error("literal, of kind", kind, "and", n)
			}
			joins := kind == api.TermAnd || kind == api.TermOr
			if norm.Pushed(a) != (want || joins) {
				t.Error("pushed, of kind", kind, "and", n)
			}
			want = is(denied, kind, n)
			if norm.Literal(not(a)) != want || norm.Pushed(not(a)) != want || norm.Pushed(and(yes(), or(not(a)))) != want {
				t.Error("denied, of kind", kind, "and", n)
			}
			if norm.Literal(not(not(a))) || norm.Pushed(not(not(a))) || norm.Literal(not(a, a)) || norm.Pushed(or(not(a, a))) {
				t.Error("denied twice, or two, of kind", kind, "and", n)
			}
		}
	}
	if norm.Literal(not()) || norm.Pushed(not()) || norm.Literal(api.Term{}) || norm.Pushed(api.Term{}) {
		t.Error("nothing is a literal")
	}
}

func TestWhatIsPushed(t *testing.T) {
	p := name("p")
	all := append(literals(), and(), or())
	for _, a := range []api.Term{
		and(), or(), and(or()), or(and(), or(), and()), and(all...), or(all...), and(or(all...), and(all...), p), laden(and(laden(or(p)))), and(and(and(and(or(not(p)))))),
	} {
		if !norm.Pushed(a) {
			t.Error("not pushed:", short(a))
		}
		if norm.Literal(a) {
			t.Error("a literal:", short(a))
		}
	}
	for _, wrong := range []api.Term{
		{}, number(1), add(p), scaled(2, p), kappa("K"), kappa("K", p), iff(p, p), not(not(p)), not(yes()), not(no()), not(most(p, p)), not(and()), not(or()), not(and(p)), not(or(p)), not(iff(p, p)), not(kappa("K")), not(api.Term{}), not(), not(p, p),
		kids(api.TermTrue, p), kids(api.TermVar, p), app("f"), app("f", p, p), most(p), most(p, p, p), equals(), equals(p), equals(p, p, p), not(kids(api.TermVar, p)), not(app("f")), not(equals(p)), {Kind: noKind}, {Kind: 255},
	} {
		for _, a := range []api.Term{wrong, and(wrong), or(wrong), and(p, wrong, p), or(wrong, p), or(p, and(), and(p, or(p, wrong)))} {
			if norm.Literal(a) || norm.Pushed(a) {
				t.Error("taken:", short(a))
			}
		}
	}
}

// What stands within a literal is not asked: no formula has to be pushed there.
func TestWhatStandsWithinALiteral(t *testing.T) {
	wrong := iff(not(not(name("p"))), kappa("K"))
	for _, a := range []api.Term{app("f", wrong), not(app("f", wrong)), most(wrong, wrong), equals(wrong, wrong), not(equals(wrong, wrong)), and(most(wrong, wrong))} {
		if !norm.Pushed(a) {
			t.Error("not pushed:", short(a))
		}
	}
}
