package proof_test

import (
	"math/big"
	"math/rand"
	"slices"

	"whetstone/api"
	"whetstone/num"
	"whetstone/ratio"
	"whetstone/term"
)

// What finds certificates by chance, and what spoils them.

// prover lays steps by chance, and takes an end where there is one.
type prover struct {
	*rand.Rand
	world
	left int // how many steps it may still try
}

// prove is a certificate, or, with false, what most likely is none.
func (w world) prove(r *rand.Rand, o api.Obligation, depth int) (api.Proof, bool) {
	facts, e := w.facts(o)
	if e != api.OK {
		return falsehood(0), false
	}
	p := prover{r, w, 60}
	return p.prove(facts, depth)
}

func (p *prover) prove(facts []api.Term, depth int) (api.Proof, bool) {
	if p.Intn(4) > 0 || depth == 0 {
		if end, ok := p.end(facts); ok {
			return end, true
		}
	}
	last := falsehood(p.Intn(len(facts)))
	for range 3 {
		if depth == 0 || p.left == 0 {
			break
		}
		p.left--
		step := p.step(facts)
		laid, ok := p.lays(facts, step)
		if !ok {
			continue
		}
		for i := range laid {
			step.Kids[i], ok = p.prove(slices.Concat(facts, laid[i]), depth-1)
			if !ok {
				break
			}
		}
		if last = step; ok {
			return step, true
		}
	}
	return last, false
}

// end is a step that ends, if there is one.
func (p *prover) end(facts []api.Term) (api.Proof, bool) {
	var all []api.Proof
	lines, keys := make([]line, len(facts)), map[string]int{}
	for i, a := range facts {
		keys[term.Key(a)] = i
		if a.Kind == api.TermLe || a.Kind == api.TermEq {
			lines[i], _ = p.sum(facts, places(i), times("1"))
		}
	}
	for i, a := range facts {
		if a.Kind == api.TermFalse {
			all = append(all, falsehood(i))
		}
		if a.Kind == api.TermNot {
			if is, ok := keys[term.Key(a.Kids[0])]; ok {
				all = append(all, clash(is, i))
			}
		}
		for j := range facts {
			if lines[i] != nil && lines[j] != nil {
				all = append(all, p.farkas(facts, lines, i, j)...)
			}
		}
	}
	if len(all) == 0 {
		return api.Proof{}, false
	}
	return pick(p.Rand, all...), true
}

// farkas is, if there is one, a sum of the two facts, the first one taken once, that can not be.
func (p *prover) farkas(facts []api.Term, lines []line, i, j int) []api.Proof {
	one, other := lines[i].atoms(), lines[j].atoms()
	if len(one) > 0 && !slices.Equal(one, other) {
		return nil
	}
	times := new(big.Rat)
	if len(one) > 0 {
		times.Neg(times.Quo(lines[i][one[0]], lines[j][one[0]]))
	}
	number := new(big.Rat).Mul(times, lines[j].number())
	coefs := []api.Ratio{ratio.Whole(num.Of(1)), told(times)}
	switch number.Add(number, lines[i].number()).Sign() {
	case 0:
		return nil
	case -1:
		coefs = []api.Ratio{ratio.Neg(coefs[0]), ratio.Neg(coefs[1])}
	}
	step := api.Proof{Kind: api.ProofFarkas, At: places(i, j), Coefs: coefs}
	if _, ok := p.lays(facts, step); !ok {
		return nil
	}
	return []api.Proof{step}
}

// told is the ratio of the library's one.
func told(a *big.Rat) api.Ratio {
	n, _ := num.Parse(a.Num().String())
	d, _ := num.Parse(a.Denom().String())
	b, _ := ratio.Of(n, d)
	return b
}

// step is one that most likely lays something, with room for its Kids.
func (p *prover) step(facts []api.Term) api.Proof {
	at := p.Intn(len(facts))
	for range 3 {
		switch facts[at].Kind {
		case api.TermAnd:
			return part(at, nothing())
		case api.TermOr:
			if len(facts[at].Kids) <= 3 {
				return cases(at, make([]api.Proof, len(facts[at].Kids))...)
			}
		case api.TermLe:
			return p.cut(facts, at)
		case api.TermEq:
			if !p.number(facts[at].Kids[0]) && p.Intn(2) == 0 {
				return apply(at, pick(p.Rand, p.functions()...), nothing())
			}
			if p.Intn(3) > 0 {
				return p.same(facts, at)
			}
			return p.cut(facts, at)
		}
		at = p.Intn(len(facts))
	}
	if p.Intn(4) == 0 {
		a := p.some(p.Rand, pick(p.Rand, "int", "tree", "pot"), 2)
		return same(a, a, nil, nothing())
	}
	return split(p.some(p.Rand, "int", 1), int64(p.Intn(9)-4), nothing(), nothing())
}

func (p *prover) same(facts []api.Term, at int) api.Proof {
	a := pick(p.Rand, facts[at].Kids...)
	walk, b := p.walk(facts, a)
	return same(a, b, walk, nothing())
}

// walk is a row of places that lead on from a, and where one stands behind them.
func (p *prover) walk(facts []api.Term, a api.Term) ([]int, api.Term) {
	var at []int
	for range 1 + p.Intn(3) {
		for range 10 {
			i := p.Intn(len(facts))
			if facts[i].Kind != api.TermEq {
				continue
			}
			side := slices.IndexFunc(facts[i].Kids, func(t api.Term) bool { return term.Key(t) == term.Key(a) })
			if side >= 0 {
				at, a = append(at, i), facts[i].Kids[1-side]
				break
			}
		}
	}
	return at, a
}

func (p *prover) cut(facts []api.Term, at int) api.Proof {
	step := cut(places(at), times(pick(p.Rand, "1", "1", "2", "1/2", "1/3", "3/2", "-1")), nothing())
	if p.Intn(3) == 0 {
		step.At = append(step.At, p.Intn(len(facts)))
		step.Coefs = append(step.Coefs, times(pick(p.Rand, "1", "1", "2", "1/2", "0", "-1", "-2/3"))...)
	}
	return step
}

// Obligations.

// follows is what does follow of t, or is near to that.
func (w world) follows(r *rand.Rand, t api.Term) api.Term {
	n := number(int64(r.Intn(4) - 1))
	switch t.Kind {
	case api.TermLe:
		return pick(r, atMost(t.Kids[0], add(t.Kids[1], n)), or(not(t), t), atMost(scale(2, t.Kids[0]), scale(2, t.Kids[1])))
	case api.TermEq:
		if !w.number(t.Kids[0]) {
			return pick(r, equals(t.Kids[1], t.Kids[0]), equals(app("tag", t.Kids[0]), app("tag", t.Kids[1])), t)
		}
		return pick(r, equals(t.Kids[1], t.Kids[0]), atMost(t.Kids[0], add(t.Kids[1], n)), not(equals(t.Kids[0], add(t.Kids[1], number(1)))))
	case api.TermAnd:
		if len(t.Kids) > 0 {
			return w.follows(r, pick(r, t.Kids...))
		}
	}
	return pick(r, t, or(t, w.formula(r, 1)), iff(t, yes()), not(not(t)))
}

// someObligation is one whose goal does follow, most often.
func (w world) someObligation(r *rand.Rand) api.Obligation {
	var hyps []api.Term
	for range r.Intn(4) {
		hyps = append(hyps, w.formula(r, r.Intn(4)))
	}
	goal := w.formula(r, 2)
	if len(hyps) > 0 && r.Intn(3) > 0 {
		goal = w.follows(r, pick(r, hyps...))
	}
	if r.Intn(20) == 0 {
		bad := pick(r, name("none"), number(1), and(name("n")), app("CONS.0", name("s")), equals(name("p"), name("p")), atMost(name("odd"), name("n")), not(), atMost(name("n"), name("none")))
		if r.Intn(2) == 0 {
			return w.obliged(bad, hyps...)
		}
		hyps = append(hyps, bad)
	}
	return w.obliged(goal, hyps...)
}

// Spoilt ones.

// cloned is p in memory of its own, but for its terms.
func cloned(p api.Proof) api.Proof {
	p.At, p.Coefs, p.Terms, p.Kids = slices.Clone(p.At), slices.Clone(p.Coefs), slices.Clone(p.Terms), slices.Clone(p.Kids)
	for i := range p.Kids {
		p.Kids[i] = cloned(p.Kids[i])
	}
	return p
}

// nodes are all steps.
func nodes(p *api.Proof) []*api.Proof {
	all := []*api.Proof{p}
	for i := range p.Kids {
		all = append(all, nodes(&p.Kids[i])...)
	}
	return all
}

// changed is l with one taken out, put in, or put in the place of another one.
func changed[T any](r *rand.Rand, l []T, room ...T) []T {
	at, one := r.Intn(len(l)+1), pick(r, room...)
	if at == len(l) || r.Intn(4) == 0 {
		return slices.Insert(l, at, one)
	}
	if r.Intn(4) == 0 {
		return slices.Delete(l, at, at+1)
	}
	l[at] = one
	return l
}

// spoil is p with one part of one step changed.
func spoil(r *rand.Rand, p api.Proof) api.Proof {
	p = cloned(p)
	all := nodes(&p)
	at := pick(r, all...)
	w := trees()
	switch r.Intn(12) {
	case 0:
		at.Kind = api.ProofKind(r.Intn(11))
	case 1:
		at.Coefs = changed(r, at.Coefs, append(wrongRatios(), times("1", "2", "1/2", "-1", "0", "1", "2")...)...)
	case 2:
		at.Name = pick(r, append(w.functions(), "", "none", "tag")...)
	case 3:
		at.Terms = changed(r, at.Terms, w.some(r, "int", 1), w.some(r, "tree", 1), name("p"), name("none"), api.Term{}, laden(name("s")))
	case 4:
		at.Num = pick(r, append(wrongInts(), num.Of(int64(r.Intn(9)-4)), num.Of(1), num.Of(0))...)
	case 5:
		at.Kids = changed(r, at.Kids, cloned(*pick(r, all...)), falsehood(0), clash(0, 1), nothing())
	case 6:
		*at = cloned(*pick(r, all...))
	case 7:
		r.Shuffle(len(at.Kids), func(i, j int) { at.Kids[i], at.Kids[j] = at.Kids[j], at.Kids[i] })
	default:
		at.At = changed(r, at.At, r.Intn(5), r.Intn(5), r.Intn(12)-1)
	}
	return p
}
