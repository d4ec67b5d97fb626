package solver_test

import (
	"math/rand"

	"whetstone/api"
)

// chance makes terms.
type chance struct{ *rand.Rand }

func (g chance) list(deep int) api.Term {
	if deep > 0 && g.Intn(3) == 0 {
		return app("cons.1", g.list(deep-1))
	}
	return v(pick(g.Rand, "k", "l", "m"))
}

func (g chance) number(deep int) api.Term {
	switch g.Intn(6) {
	case 0:
		return n(g.Int63n(9) - 4)
	case 1:
		return scale(g.Int63n(7)-3, v(pick(g.Rand, "x", "y", "z")))
	case 2:
		return app(pick(g.Rand, "tag", "cons.0"), g.list(1))
	case 3:
		if deep > 0 {
			return sum(g.number(deep-1), g.number(deep-1))
		}
	}
	return v(pick(g.Rand, "x", "y", "z"))
}

// literal has numbers in it only where they are asked.
func (g chance) literal(numbers bool) api.Term {
	switch {
	case numbers && g.Intn(4) == 0:
		return eq(g.number(1), g.number(1))
	case numbers && g.Intn(3) > 0:
		return le(g.number(1), g.number(1))
	case g.Intn(2) == 0:
		return eq(g.list(2), g.list(2))
	case g.Intn(3) == 0:
		return app("cons.2", g.list(1))
	case g.Intn(20) == 0:
		return node(pick(g.Rand, api.TermTrue, api.TermFalse))
	}
	return v(pick(g.Rand, "p", "q", "r"))
}

func (g chance) formula(deep int, numbers bool) api.Term {
	if deep == 0 {
		return g.literal(numbers)
	}
	a, b := g.formula(deep-1, numbers), g.formula(deep-1, numbers)
	switch g.Intn(11) {
	case 0, 1:
		return and(a, b)
	case 2, 3:
		return or(a, b)
	case 4:
		return or(a, b, g.literal(numbers))
	case 5:
		return iff(a, b)
	case 6:
		return not(a)
	}
	return g.literal(numbers)
}

// asked is of so many hypotheses.
func (g chance) asked(hyps int, numbers bool) api.Obligation {
	o := ask(g.formula(g.Intn(3), numbers))
	for range hyps {
		o.Hyps = append(o.Hyps, g.formula(g.Intn(4), numbers))
	}
	return o
}
