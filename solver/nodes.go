package solver

import (
	"whetstone/api"
	"whetstone/num"
)

// kind is what a node says.
type kind int

const (
	always kind = iota // nothing
	never              // what can not be
	allOf              // its kids
	oneOf              // one of its kids
	truth              // the atom a, or, denied, that it is not so
	same               // the atoms a and b, of data, are the same, or, denied, are not
	claims             // a claim
)

// node is a pushed formula.
type node struct {
	kind   kind
	kids   []int
	denied bool
	a, b   int
	claim  claim
	plain  int // what says that without being cut, if not 0
}

// nodes are known by their places, from 0 on.
type nodes struct {
	nodeAt []node
	linked map[[2]int]int // what is said of functions of what is the same, by both atoms
}

func newNodes() nodes {
	return nodes{linked: map[[2]int]int{}}
}

func (n *nodes) add(made node) int {
	n.nodeAt = append(n.nodeAt, made)
	return len(n.nodeAt) - 1
}

// nodesOf are those of pushed formulas, whose atoms were met. They are no deeper than MaxTerm, so calls may be nested.
func (s *search) nodesOf(l ...api.Term) []int {
	places := make([]int, len(l))
	for i := range l {
		places[i] = s.nodeOf(&l[i])
	}
	return places
}

func (s *search) nodeOf(t *api.Term) int {
	switch t.Kind {
	case api.TermAnd:
		return s.group(allOf, s.nodesOf(t.Kids...))
	case api.TermOr:
		return s.group(oneOf, s.nodesOf(t.Kids...))
	}
	return s.literal(t)
}

func (s *search) group(of kind, kids []int) int {
	return s.add(node{kind: of, kids: kids})
}

func (s *search) literal(t *api.Term) int {
	switch t.Kind {
	case api.TermTrue:
		return s.add(node{kind: always})
	case api.TermFalse:
		return s.add(node{kind: never})
	case api.TermLe:
		return s.add(node{kind: claims, claim: s.claimOf(t.Kind, t.Kids[0], t.Kids[1])})
	case api.TermEq:
		return s.equality(t.Kids[0], t.Kids[1])
	case api.TermNot:
		at := s.literal(&t.Kids[0])
		s.nodeAt[at].denied = true
		return at
	}
	return s.add(node{kind: truth, a: s.place(*t)})
}

// equality says that numbers, or data, are the same.
func (s *search) equality(a, b api.Term) int {
	if s.of(a) == api.SortInt {
		return s.add(node{kind: claims, claim: s.claimOf(api.TermEq, a, b)})
	}
	return s.add(node{kind: same, a: s.place(a), b: s.place(b)})
}

// link says of functions a, b of what is the same what cong.Apply does.
func (s *search) link(a, b int) int {
	pair := [2]int{a, b}
	if at, met := s.linked[pair]; met {
		return at
	}
	at := 0
	if s.isTruth(a) {
		at = s.group(allOf, []int{s.follows(a, b), s.follows(b, a)})
	} else {
		at = s.equality(s.atomAt[a].Term, s.atomAt[b].Term)
	}
	s.linked[pair] = at
	return at
}

// follows says that a is not so, or b is.
func (s *search) follows(a, b int) int {
	not, is := s.add(node{kind: truth, a: a, denied: true}), s.add(node{kind: truth, a: b})
	return s.group(oneOf, []int{not, is})
}

// plain is a claim as it is told when it was cut: by a fact that says just that.
func (c claim) plain() claim {
	c.cut, c.times = false, oneBy(num.Of(1))
	return c
}

// plainly is the node that says what that of a claim does that is to be cut.
func (s *search) plainly(at int) int {
	if s.nodeAt[at].plain == 0 {
		made := s.add(node{kind: claims, claim: s.nodeAt[at].claim.plain()})
		s.nodeAt[at].plain = made
	}
	return s.nodeAt[at].plain
}
