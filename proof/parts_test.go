package proof_test

import (
	"testing"

	"whetstone/api"
	"whetstone/proof"
)

// P9.1: the facts of an obligation, and the steps that take them apart or end.

func TestFactsAreTheHypothesesInOrderAndTheGoal(t *testing.T) {
	p, q := name("p"), name("q")
	o := trees().obliged(p, q, p)
	tells(t, o, clash(1, 2), api.OK)
	for i := range 4 {
		for j := range 4 {
			if i != 1 || j != 2 {
				tells(t, o, clash(i, j), api.ErrProof)
			}
		}
	}
	// The hypotheses are pushed with is, the goal without.
	n, m := name("n"), name("m")
	tells(t, trees().obliged(p, not(not(p))), clash(0, 1), api.OK)
	tells(t, trees().obliged(not(p), not(p)), clash(1, 0), api.OK)
	tells(t, trees().obliged(or(p, q), p), part(1, clash(0, 2)), api.OK)
	tells(t, trees().obliged(or(p, q), q), part(1, clash(0, 3)), api.OK)
	tells(t, trees().obliged(and(p, q), not(or(not(p), not(q)))), cases(1, part(0, clash(3, 2)), part(0, clash(4, 2))), api.OK)
	tells(t, trees().obliged(atMost(n, m), atMost(n, m)), farkas(places(0, 1), "1", "1"), api.OK)
	tells(t, trees().obliged(not(atMost(n, m)), not(atMost(n, m))), farkas(places(0, 1), "1", "1"), api.OK)
	tells(t, trees().obliged(no(), no()), falsehood(0), api.OK)
	tells(t, trees().obliged(no(), no()), falsehood(1), api.ErrProof)
	tells(t, trees().obliged(yes()), falsehood(0), api.OK)
	tells(t, trees().obliged(no()), falsehood(0), api.ErrProof)
}

func TestTheErrorsOfPush(t *testing.T) {
	p, ok := name("p"), falsehood(0)
	great := p
	for range 20 {
		great = iff(great, p)
	}
	for i, c := range []struct {
		goal api.Term
		hyps []api.Term
		want api.Errno
	}{
		{name("none"), nil, api.ErrName}, {name("n"), nil, api.ErrSort}, {api.Term{}, nil, api.ErrSort}, {not(), nil, api.ErrMany}, {great, nil, api.ErrGrown}, {kids(api.TermKappa), nil, api.ErrSort},
		{no(), []api.Term{name("none")}, api.ErrName}, {no(), []api.Term{p, name("n"), p}, api.ErrSort}, {no(), []api.Term{p, p, not(p, p)}, api.ErrMany}, {no(), []api.Term{great}, api.ErrGrown},
		// The first one of the hypotheses, in order; then of the goal.
		{not(), []api.Term{name("none"), name("n")}, api.ErrName}, {not(), []api.Term{name("n"), name("none")}, api.ErrSort}, {name("none"), []api.Term{great, name("n")}, api.ErrGrown},
		{name("none"), []api.Term{p, not()}, api.ErrMany}, {great, []api.Term{p, p, name("none")}, api.ErrName}, {great, []api.Term{p}, api.ErrGrown}, {name("n"), []api.Term{no()}, api.ErrSort},
		// None, and a certificate that shows it; or shows nothing.
		{p, []api.Term{no()}, api.OK}, {yes(), nil, api.OK}, {p, []api.Term{p}, api.ErrProof}, {no(), nil, api.ErrProof},
	} {
		o := trees().obliged(c.goal, c.hyps...)
		if e := proof.Check(trees().datas, o, ok); e != c.want {
			t.Error(i, e, c.want)
		}
		// Whatever the certificate is.
		if c.want != api.OK && c.want != api.ErrProof {
			for _, bad := range []api.Proof{nothing(), clash(0, 1), falsehood(9), part(0)} {
				if e := proof.Check(trees().datas, o, bad); e != c.want {
					t.Error(i, e, c.want)
				}
			}
		}
	}
	// Names are those of the scope, functions those of datas.
	if e := proof.Check(nil, api.Obligation{Goal: yes()}, ok); e != api.OK {
		t.Error(e)
	}
	if e := proof.Check(nil, api.Obligation{Hyps: []api.Term{p}, Goal: yes()}, ok); e != api.ErrName {
		t.Error(e)
	}
	if e := proof.Check(nil, trees().obliged(yes(), equals(name("s"), name("s"))), ok); e != api.ErrSort {
		t.Error(e)
	}
	if e := proof.Check(nil, api.Obligation{}, ok); e != api.ErrSort {
		t.Error(e)
	}
}

// facts are one of each kind that a pushed one may be of.
func facts() []api.Term {
	n, s, p := name("n"), name("s"), name("p")
	return []api.Term{
		yes(), no(), p, app("FORK.2", s), not(p), not(app("FORK.2", s)), not(equals(s, s)), equals(s, s), equals(n, n), atMost(n, n),
		and(p), and(), and(p, p), or(p), or(), or(p, p), and(or(p)), or(and(p)),
	}
}

// Facts are only taken for what they are.
func TestOnlyFactsOfTheKindThatIsAsked(t *testing.T) {
	for _, fact := range facts() {
		for many := range 4 {
			l := make([]api.Proof, many)
			for i := range l {
				l[i] = falsehood(1) // the fact behind this one
			}
			try := func(p api.Proof, ok bool) {
				t.Helper()
				tells(t, trees().obliged(no(), fact, no()), p, when(ok))
			}
			try(part(0, l...), fact.Kind == api.TermAnd && many == 1)
			try(cases(0, l...), fact.Kind == api.TermOr && many == len(fact.Kids))
			if many == 0 {
				try(falsehood(0), fact.Kind == api.TermFalse)
			}
		}
	}
}

func TestPart(t *testing.T) {
	p, q := name("p"), name("q")
	// The kids are behind the facts, in order: at 3, 4, 5.
	three := []api.Term{p, and(p, q, not(p))}
	for i := range 8 {
		for j := range 8 {
			ok := (i == 0 || i == 3) && j == 5
			tells(t, trees().obliged(no(), three...), part(1, clash(i, j)), when(ok))
		}
	}
	// Of none nothing is laid, of one that.
	shows(t, part(0, falsehood(1)), and(), no())
	fails(t, part(0, falsehood(3)), and(), no())
	shows(t, part(0, falsehood(2)), and(no()))
	fails(t, part(0, falsehood(3)), and(no()))
	// One within another one, and one twice: each time it lays anew.
	shows(t, part(0, part(2, falsehood(3))), and(and(no())))
	fails(t, part(0, falsehood(2)), and(and(no())))
	shows(t, part(0, part(0, part(0, falsehood(7)))), and(yes(), no()))
	// Places that are not there.
	for _, at := range []int{2, 3, -1, -2, most, -most - 1} {
		fails(t, part(at, falsehood(0)), no())
		fails(t, part(at, falsehood(2)), and(no()))
	}
	fails(t, part(0, clash(0, 1)), and(no()))
}

func TestCase(t *testing.T) {
	p, q := name("p"), name("q")
	either := []api.Term{or(p, q), not(p), not(q)}
	shows(t, cases(0, clash(4, 1), clash(4, 2)), either...)
	fails(t, cases(0, clash(4, 2), clash(4, 1)), either...)
	fails(t, cases(0, clash(4, 1), clash(4, 1)), either...)
	fails(t, cases(0, clash(4, 1)), either...)
	fails(t, cases(0), either...)
	fails(t, cases(0, clash(4, 1), clash(4, 2), clash(4, 2)), either...)
	// A Kid has only its own one, at the first place behind the facts.
	fails(t, cases(0, clash(4, 1), clash(5, 2)), either...)
	fails(t, cases(0, clash(5, 1), clash(4, 2)), either...)
	// One of none is an end.
	shows(t, cases(0), or())
	fails(t, cases(0, falsehood(1)), or(), no())
	shows(t, cases(0, falsehood(2)), or(no()))
	fails(t, cases(0, falsehood(3)), or(no()))
	// What one Kid lays the next one does not have.
	laid := []api.Term{or(and(p, no()), or(q)), not(q)}
	shows(t, cases(0, part(3, falsehood(5)), cases(3, clash(4, 1))), laid...)
	fails(t, cases(0, part(3, falsehood(5)), falsehood(5)), laid...)
	fails(t, cases(0, part(3, falsehood(5)), cases(3, falsehood(5))), laid...)
	fails(t, cases(0, part(3, falsehood(5)), clash(4, 1)), laid...)
	shows(t, cases(0, cases(3, clash(4, 1)), part(3, falsehood(5))), or(or(q), and(p, no())), not(q))
	// All within each other: 2 ways 3 times.
	two := []api.Term{or(p, no()), or(p, no()), or(q, no()), not(p), not(q)}
	shows(t, cases(0, clash(6, 3), falsehood(6)), two...)
	shows(t, cases(2, cases(1, cases(0, clash(8, 3), falsehood(8)), falsehood(7)), falsehood(6)), two...)
	fails(t, cases(2, cases(1, cases(0, clash(8, 3), falsehood(8)), falsehood(8)), falsehood(6)), two...)
	for _, at := range []int{2, 3, -1, most, -most - 1} {
		fails(t, cases(at), or())
		fails(t, cases(at, falsehood(0)), no())
	}
}

func TestFalse(t *testing.T) {
	for at := -1; at < 6; at++ {
		tells(t, trees().obliged(yes(), yes(), no(), name("p"), no()), falsehood(at), when(at == 1 || at == 3 || at == 4))
	}
	fails(t, falsehood(), no())
	fails(t, falsehood(0, 0), no())
	fails(t, falsehood(most), no())
	shows(t, falsehood(0), not(yes()), and(no()))
	fails(t, falsehood(1), not(yes()), and(no())) // what has it is not one
}

func TestClash(t *testing.T) {
	s, u, p := name("s"), name("u"), name("p")
	for _, fact := range []api.Term{p, app("FORK.2", s), app("FORK.2", app("FORK.0", s)), equals(s, u), equals(s, s), laden(p), app("POT.1", laden(name("o")))} {
		shows(t, clash(0, 1), fact, not(fact))
		shows(t, clash(1, 0), not(fact), fact)
		fails(t, clash(1, 0), fact, not(fact))
		fails(t, clash(0, 0), fact, not(fact))
		fails(t, clash(1, 1), fact, not(fact))
		fails(t, clash(0, 1), fact, fact)
		fails(t, clash(0, 1), not(fact), not(fact))
		for _, at := range []int{3, -1, most, -most - 1} {
			fails(t, clash(0, at), fact, not(fact))
			fails(t, clash(at, 1), fact, not(fact))
		}
		fails(t, clash(), fact, not(fact))
		fails(t, clash(0), fact, not(fact))
		fails(t, clash(0, 1, 1), fact, not(fact))
		fails(t, clash(0, 1), fact, and(not(fact)))
	}
	// Just that fact, in all its parts.
	fails(t, clash(0, 1), p, not(name("q")))
	fails(t, clash(0, 1), p, not(laden(p)))
	fails(t, clash(0, 1), laden(p), not(p))
	fails(t, clash(0, 1), equals(s, u), not(equals(u, s)))
	fails(t, clash(0, 1), laden(equals(s, u)), not(equals(s, u)))
	fails(t, clash(0, 1), app("FORK.2", s), not(app("FORK.2", u)))
	fails(t, clash(0, 1), app("FORK.2", app("FORK.0", s)), not(app("FORK.2", s)))
	// True and false are no denials of each other, nor are numbers that are above each other.
	fails(t, clash(0, 1), yes(), not(yes()))
	fails(t, clash(0, 1), atMost(name("n"), name("m")), not(atMost(name("n"), name("m"))))
}
