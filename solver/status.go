package solver

import "whetstone/num"

// status is what the facts that were taken tell at once of a node.
type status int

const (
	no status = iota - 1
	open
	yes
)

// status of a node: no more is asked than what literals say, not what follows of many of them.
func (s *state) status(at int) status {
	s.left--
	n := &s.nodeAt[at]
	switch n.kind {
	case always:
		return yes
	case never:
		return no
	case allOf:
		return s.ofAll(n.kids)
	case oneOf:
		return s.ofOne(n.kids)
	case claims:
		return s.ofClaim(&n.claim)
	}
	told := s.ofTruth(n.a)
	if n.kind == same {
		told = s.ofSame(n)
	}
	if n.denied {
		return -told
	}
	return told
}

func (s *state) ofAll(kids []int) status {
	least := yes
	for _, kid := range kids {
		if least = min(least, s.status(kid)); least == no {
			break
		}
	}
	return least
}

func (s *state) ofOne(kids []int) status {
	most := no
	for _, kid := range kids {
		if most = max(most, s.status(kid)); most == yes {
			break
		}
	}
	return most
}

// ofTruth is the status of an atom.
func (s *state) ofTruth(at int) status {
	fact, met := s.told[at]
	switch {
	case !met:
		return open
	case s.nodeAt[s.facts[fact]].denied:
		return no
	}
	return yes
}

func (s *state) ofSame(n *node) status {
	if s.areOne(n.a, n.b) {
		return yes
	}
	if _, met := s.isUnlike(n.a, n.b); met {
		return no
	}
	return open
}

func (s *state) ofClaim(c *claim) status {
	if c.broken {
		return no
	}
	if c.form == none {
		return yes
	}
	switch most, least := c.against(s.most, 1), c.against(s.least, -1); {
	case c.side != below && least > 0, c.side != above && most < 0:
		return no
	case c.side == above && most <= 0, c.side == below && least >= 0, most == 0 && least == 0:
		return yes
	}
	return open
}

// against tells whether the form's bound is less than the claim's number, that, or more: where there is none, what is said
// of none.
func (c *claim) against(bounds map[int]bound, ofNone int) int {
	b, met := bounds[c.form]
	if !met {
		return ofNone
	}
	return num.Cmp(b.number, c.number)
}
