package solver

import "whetstone/api"

// search is what stays, wherever the search stands: what is known of the parts of facts, and what it may still do.
type search struct {
	atoms
	forms
	nodes
	given   []int // the nodes of the facts that are there at first
	left    int   // of the steps
	deepest int   // how often numbers may be halved, one time within the other
}

// spend tells whether so much was left.
func (s *search) spend(many int) bool {
	s.left -= many
	return s.left >= 0
}

// bound is a number that a form is not beyond, and the fact that says so.
type bound struct {
	number api.Int
	fact   int
	times  api.Ratio // of the fact: that gives the form less the number, or of a bound below the number less the form
}

// state is where the search stands: the facts that are laid, and what follows of them.
type state struct {
	*search
	classes
	facts  []int            // their nodes
	taken  int              // how many of the facts
	ways   []int            // the facts that are disjunctions
	gone   map[int]struct{} // those of them of which a kid was laid, or is so anyway
	steps  []*tree          // by which facts were laid, to be filled
	told   map[int]int      // the fact that says of a truth that it is so, or is not
	most   map[int]bound    // of forms
	least  map[int]bound
	moved  []int // forms that have a new bound
	halved int   // how often numbers were
	undo   []func()
}

func newState(s *search) *state {
	return &state{search: s, classes: newClasses(s.atomAt...), gone: map[int]struct{}{}, told: map[int]int{}, most: map[int]bound{}, least: map[int]bound{}}
}

// mark is a place that the search goes back to.
type mark struct{ facts, ways, steps, unlike, halved, undo int }

func (s *state) mark() mark {
	return mark{len(s.facts), len(s.ways), len(s.steps), len(s.unlike), s.halved, len(s.undo)}
}

// back goes back to where all that was laid was taken.
func (s *state) back(m mark) {
	for len(s.undo) > m.undo {
		last := len(s.undo) - 1
		s.undo[last]()
		s.undo = s.undo[:last]
	}
	s.facts, s.ways, s.steps, s.unlike = s.facts[:m.facts], s.ways[:m.ways], s.steps[:m.steps], s.unlike[:m.unlike]
	s.taken, s.halved, s.moved = m.facts, m.halved, s.moved[:0]
}

// lay lays facts behind the others.
func (s *state) lay(nodes ...int) {
	s.facts = append(s.facts, nodes...)
}

// derive lays facts by a step, which is filled later.
func (s *state) derive(step *tree, nodes ...int) {
	s.steps = append(s.steps, step)
	s.lay(nodes...)
}

// filled is a certificate behind all steps that were made since, so far as it asks for what they lay.
func (s *state) filled(follows *tree, since mark) *tree {
	for at := len(s.steps) - 1; at >= since.steps; at-- {
		follows = s.steps[at].filled(follows)
	}
	return follows
}

// leave notes that a disjunction asks for nothing any more.
func (s *state) leave(way int) {
	s.gone[way] = struct{}{}
	s.undo = append(s.undo, func() { delete(s.gone, way) })
}

// isGone tells whether a disjunction asks for nothing any more.
func (s *state) isGone(way int) bool {
	_, met := s.gone[way]
	return met
}

// next is the number that the next fact will have.
func (s *state) next() int {
	return len(s.facts)
}
