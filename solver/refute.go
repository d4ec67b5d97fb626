package solver

import (
	"cmp"
	"slices"

	"whetstone/api"
	"whetstone/num"
	"whetstone/ratio"
)

// refute is a certificate that a fact that says what a node does can not be, as the node's status tells. The facts that it
// lays are counted from next on.
func (s *state) refute(at, fact, next int) *tree {
	n := s.nodeAt[at]
	switch n.kind {
	case allOf:
		kid := slices.IndexFunc(n.kids, s.isRefuted)
		t := stepOn(api.ProofPart, fact, next, len(n.kids))
		t.kids = []*tree{s.refute(n.kids[kid], next+kid, next+len(n.kids))}
		return t.done()
	case oneOf:
		t := stepOn(api.ProofCase, fact, next, 1)
		for _, kid := range n.kids {
			t.kids = append(t.kids, s.refute(kid, next, next+1))
		}
		return t.done()
	case truth:
		if n.denied {
			return clash(s.told[n.a], fact)
		}
		return clash(fact, s.told[n.a])
	case same:
		return s.refuteSame(n, fact, next)
	case claims:
		return s.refuteClaim(n.claim, fact, next)
	}
	return leaf(api.Proof{Kind: api.ProofFalse}, fact)
}

func (s *state) isRefuted(at int) bool {
	return s.status(at) == no
}

func clash(is, isNot int) *tree {
	return leaf(api.Proof{Kind: api.ProofClash}, is, isNot)
}

func (s *state) refuteSame(n node, fact, next int) *tree {
	if n.denied {
		return s.clashAlong(n, fact, next, s.path(n.a, n.b)...)
	}
	isNot, _ := s.isUnlike(n.a, n.b)
	other := s.nodeAt[s.facts[isNot]]
	a, b := n.a, n.b
	if !s.areOne(other.a, a) {
		a, b = b, a
	}
	ahead, behind := s.path(other.a, a), s.path(b, other.b)
	if len(ahead)+len(behind) == 0 && a == n.a {
		return clash(fact, isNot)
	}
	return s.same(other, isNot, next, slices.Concat(ahead, []int{fact}, behind)...)
}

// clashAlong is of a fact that a path shows not to be so.
func (s *state) clashAlong(n node, isNot, next int, path ...int) *tree {
	if len(path) == 1 {
		if e := s.nodeAt[s.facts[path[0]]]; e.a == n.a && e.b == n.b {
			return clash(path[0], isNot)
		}
	}
	return s.same(n, isNot, next, path...)
}

func (s *state) same(n node, isNot, next int, path ...int) *tree {
	return laying(s.sameness(n.a, n.b), next, path...).filled(clash(next, isNot))
}

func (s *state) refuteClaim(c claim, fact, next int) *tree {
	switch {
	case c.form == none:
		return farkas(share{fact, c.times})
	case c.broken:
		return cutTwice(fact, next)
	}
	mine := share{fact, c.times}
	if c.cut {
		mine = share{next, c.plain().times}
	}
	against := s.least[c.form]
	if c.side == below || c.side == both && c.against(s.most, 1) < 0 {
		against = s.most[c.form]
		if c.side == both {
			mine.times = ratio.Neg(mine.times)
		}
	}
	t := farkas(mine, share{against.fact, against.times})
	if c.cut {
		t = cutOf(next, once(fact)).filled(t)
	}
	return t
}

// once is a fact as it is.
func once(fact int) share {
	return share{fact, oneBy(num.Of(1))}
}

// cutTwice is of an equality that no whole number meets: it is rounded from both sides.
func cutTwice(fact, next int) *tree {
	t := farkas(once(next), once(next+1))
	t = cutOf(next+1, share{fact, oneBy(num.Of(-1))}).filled(t)
	return cutOf(next, once(fact)).filled(t)
}

// share is how many times a fact is taken in a sum.
type share struct {
	fact  int
	times api.Ratio
}

// cutOf is the step that divides a sum of facts and rounds it.
func cutOf(first int, shares ...share) *tree {
	at, times := gathered(shares...)
	return laying(api.Proof{Kind: api.ProofCut, Coefs: times}, first, at...)
}

// farkas is the step that ends with a sum of facts that can't be.
func farkas(shares ...share) *tree {
	at, times := gathered(shares...)
	return leaf(api.Proof{Kind: api.ProofFarkas, Coefs: times}, at...)
}

// gathered are facts, rising, and how many times they are taken; one that comes twice as often as both say.
func gathered(shares ...share) (at []int, times []api.Ratio) {
	slices.SortFunc(shares, func(a, b share) int { return cmp.Compare(a.fact, b.fact) })
	for _, one := range shares {
		last := len(at) - 1
		if last >= 0 && at[last] == one.fact {
			times[last] = ratio.Add(times[last], one.times)
			continue
		}
		at, times = append(at, one.fact), append(times, one.times)
	}
	return at, times
}
