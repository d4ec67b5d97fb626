package proof_test

import (
	"slices"
	"testing"

	"whetstone/api"
	"whetstone/num"
	"whetstone/proof"
)

// P9.1: what a step has, and no more.

// sides are facts of which each kind of step shows something.
func sides() []api.Term {
	n, s := name("n"), name("s")
	return []api.Term{no(), and(no()), or(no(), no()), atMost(n, number(3)), atMost(number(4), n), equals(s, name("t")), name("p"), not(name("p"))}
}

// ofEach is a certificate of each kind that shows that they can not be.
func ofEach() []api.Proof {
	n, s, end := name("n"), name("s"), falsehood(0)
	return []api.Proof{
		part(1, end), cases(2, end, end), split(n, 5, end, end), split(n, 0, end, end), cut(places(3), times("1"), end), cut(places(3, 4), times("2", "1"), end),
		same(s, name("t"), places(5), end), same(s, s, nil, end), apply(5, "tag", end), end, clash(6, 7), farkas(places(3, 4), "1", "1"),
	}
}

// named tells of a kind which parts its row names, beside At and Kids.
func named(kind api.ProofKind, part string) bool {
	switch part {
	case "Coefs":
		return kind == api.ProofCut || kind == api.ProofFarkas
	case "Name":
		return kind == api.ProofApply
	case "Terms":
		return kind == api.ProofLess || kind == api.ProofSame
	}
	return part == "Num" && kind == api.ProofLess
}

func TestPartsThatTheRowDoesNotName(t *testing.T) {
	for _, p := range ofEach() {
		shows(t, p, sides()...)
		without := func(what string, change func(p *api.Proof)) {
			t.Helper()
			bad := cloned(p)
			change(&bad)
			if e := proof.Check(trees().datas, trees().obliged(no(), sides()...), bad); e != api.ErrProof {
				t.Error(what, e, brief(bad))
			}
		}
		for part, change := range map[string]func(p *api.Proof){
			"Coefs": func(p *api.Proof) { p.Coefs = times("1") },
			"Name":  func(p *api.Proof) { p.Name = "tag" },
			"Terms": func(p *api.Proof) { p.Terms = []api.Term{name("n")} },
			"Num":   func(p *api.Proof) { p.Num = num.Of(1) },
		} {
			if !named(p.Kind, part) {
				without(part, change)
			}
		}
		if !named(p.Kind, "Num") {
			for _, n := range wrongInts() {
				without("Num", func(p *api.Proof) { p.Num = n })
			}
		}
		if !named(p.Kind, "Coefs") {
			without("Coefs", func(p *api.Proof) { p.Coefs = slices.Repeat(times("0"), len(p.At)+1) })
			without("Coefs", func(p *api.Proof) { p.Coefs = make([]api.Ratio, 1) })
		}
		without("Terms", func(p *api.Proof) { p.Terms = append(p.Terms, name("n")) })
		without("Terms", func(p *api.Proof) { p.Terms = append(p.Terms, api.Term{}) })
		without("Coefs", func(p *api.Proof) { p.Coefs = append(p.Coefs, times("0")...) })
		without("Kids", func(p *api.Proof) { p.Kids = append(p.Kids, falsehood(0)) })
		without("Kids", func(p *api.Proof) { p.Kids = append(p.Kids, nothing()) })
		without("At", func(p *api.Proof) { p.At = append(p.At, 0) })
		without("At", func(p *api.Proof) { p.At = append(p.At, -1) })
		without("At", func(p *api.Proof) { p.At = append([]int{most}, p.At...) })
	}
}

func TestPartsThatAreMissing(t *testing.T) {
	for _, p := range ofEach() {
		if len(p.At) > 0 {
			bad := cloned(p)
			bad.At = bad.At[1:]
			fails(t, bad, sides()...)
		}
		if len(p.Kids) > 0 {
			bad := cloned(p)
			bad.Kids = bad.Kids[1:]
			fails(t, bad, sides()...)
		}
		if len(p.Terms) > 0 {
			bad := cloned(p)
			bad.Terms = bad.Terms[1:]
			fails(t, bad, sides()...)
		}
		if len(p.Coefs) > 0 {
			bad := cloned(p)
			bad.Coefs = bad.Coefs[1:]
			fails(t, bad, sides()...)
		}
		// Each Kid has to come to its end.
		for i := range p.Kids {
			for _, kid := range []api.Proof{nothing(), falsehood(1), clash(7, 6), part(1), {Kind: 255}, {Kind: api.ProofFarkas}, {Kind: api.ProofFalse}} {
				bad := cloned(p)
				bad.Kids[i] = kid
				fails(t, bad, sides()...)
				bad.Kids[i] = part(1, kid)
				fails(t, bad, sides()...)
				bad.Kids[i] = part(1, falsehood(10))
				shows(t, bad, sides()...)
			}
		}
	}
}

func TestKinds(t *testing.T) {
	for _, p := range ofEach() {
		for kind := range 256 {
			other := p
			other.Kind = api.ProofKind(kind)
			tells(t, trees().obliged(no(), sides()...), other, when(other.Kind == p.Kind))
		}
	}
	for kind := range 256 {
		fails(t, api.Proof{Kind: api.ProofKind(kind)}, sides()...)
	}
}
