package solver

import (
	"whetstone/api"
	"whetstone/ratio"
)

// settle takes what follows of the facts at once, till nothing more does. It tells a certificate, if they can't be.
func (s *state) settle() *tree {
	for {
		if t := s.takeAll(); t != nil {
			return t
		}
		many := len(s.facts)
		if t := s.forced(); t != nil {
			return t
		}
		if many == len(s.facts) || s.left < 0 {
			return nil
		}
	}
}

// takeAll takes the facts that were not taken.
func (s *state) takeAll() *tree {
	for s.taken < len(s.facts) && s.spend(16) {
		s.taken++
		if t := s.take(s.taken - 1); t != nil {
			return t
		}
	}
	return nil
}

func (s *state) take(fact int) *tree {
	at := s.facts[fact]
	n := s.nodeAt[at]
	switch n.kind {
	case allOf:
		step := stepOn(api.ProofPart, fact, s.next(), len(n.kids))
		step.kids = make([]*tree, 1)
		s.derive(step, n.kids...)
		return nil
	case oneOf:
		s.ways = append(s.ways, fact)
		return nil
	}
	switch s.status(at) {
	case no:
		return s.refute(at, fact, s.next())
	case open:
		return s.say(at, fact)
	}
	return nil
}

// say says what a literal does, which was open.
func (s *state) say(at, fact int) *tree {
	switch n := s.nodeAt[at]; n.kind {
	case truth:
		s.told[n.a] = fact
		s.undo = append(s.undo, func() { delete(s.told, n.a) })
	case same:
		return s.saySame(n, fact)
	case claims:
		s.sayClaim(at, fact)
	}
	return nil
}

func (s *state) saySame(n node, fact int) *tree {
	if n.denied {
		s.unlike = append(s.unlike, fact)
		return nil
	}
	s.join(n.a, n.b, fact)
	for _, isNot := range s.unlike {
		if n := s.nodeAt[s.facts[isNot]]; s.areOne(n.a, n.b) {
			return s.refute(s.facts[isNot], isNot, s.next())
		}
	}
	return nil
}

func (s *state) sayClaim(at, fact int) {
	c := s.nodeAt[at].claim
	if c.cut {
		s.derive(cutOf(s.next(), once(fact)), s.plainly(at))
		return
	}
	if c.side != below && c.against(s.most, 1) > 0 {
		s.bind(s.most, c.form, bound{c.number, fact, c.times})
	}
	if c.side == both {
		c.times = ratio.Neg(c.times)
	}
	if c.side != above && c.against(s.least, -1) < 0 {
		s.bind(s.least, c.form, bound{c.number, fact, c.times})
	}
}

// bind gives a form a bound that is nearer than that which it had.
func (s *state) bind(bounds map[int]bound, form int, b bound) {
	had, met := bounds[form]
	bounds[form] = b
	s.moved = append(s.moved, form)
	s.undo = append(s.undo, func() {
		if met {
			bounds[form] = had
		} else {
			delete(bounds, form)
		}
	})
}

// forced lays the last kids of disjunctions whose other kids can't be.
func (s *state) forced() *tree {
	for i := 0; i < len(s.ways) && s.left >= 0; i++ {
		fact := s.ways[i]
		if s.isGone(fact) {
			continue
		}
		kids := s.nodeAt[s.facts[fact]].kids
		kid, many := s.mayBe(kids...)
		if many > len(kids) {
			s.leave(fact)
		}
		if many > 1 {
			continue
		}
		if many == 0 {
			kid = none
		}
		t := s.but(kid, fact, kids...)
		if many == 0 {
			return t.done()
		}
		s.leave(fact)
		s.derive(t, kids[kid])
		if t := s.takeAll(); t != nil {
			return t
		}
	}
	return nil
}

// but is a step with certificates for all kids of a disjunction but one.
func (s *state) but(kid, fact int, kids ...int) *tree {
	t := stepOn(api.ProofCase, fact, s.next(), 1)
	t.kids, t.hole = make([]*tree, len(kids)), kid
	for i, at := range kids {
		if i != kid {
			t.kids[i] = s.refute(at, s.next(), s.next()+1)
		}
	}
	return t
}

// mayBe are how many of the kids of a disjunction may be, and the place of one of them; more than there are, if one is so
// anyway.
func (s *state) mayBe(kids ...int) (at, many int) {
	for i, kid := range kids {
		switch s.status(kid) {
		case yes:
			return i, len(kids) + 2
		case open:
			at = i
			many++
		}
	}
	return at, many
}
