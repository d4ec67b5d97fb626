package solver

import (
	"slices"

	"whetstone/api"
)

// tree is a certificate in the making. It knows facts by their numbers, which they have also where a certificate does
// not lay all those ahead of them.
type tree struct {
	step  api.Proof // without At and Kids
	at    []int     // facts
	first int       // the first fact that is laid ahead of each kid
	many  int       // how many are
	kids  []*tree
	hole  int   // which of the kids is still to come, of a step that is not filled yet
	uses  []int // the facts, rising, that are asked for and not laid within
}

// done is t with what it uses; all its kids are there.
func (t *tree) done() *tree {
	uses := slices.Clone(t.at)
	for _, kid := range t.kids {
		ahead, _ := slices.BinarySearch(kid.uses, t.first)
		uses = append(uses, kid.uses[:ahead]...)
	}
	slices.Sort(uses)
	t.uses = slices.Compact(uses)
	return t
}

// usesAny tells whether any of so many facts from the first one on is asked for.
func (t *tree) usesAny(first, many int) bool {
	at, _ := slices.BinarySearch(t.uses, first)
	return at < len(t.uses) && t.uses[at] < first+many
}

// filled is a step with what follows; or that alone, where it asks for nothing of what the step lays.
func (t *tree) filled(follows *tree) *tree {
	if !follows.usesAny(t.first, t.many) {
		return follows
	}
	made := *t
	made.kids = slices.Clone(t.kids)
	made.kids[t.hole] = follows
	return made.done()
}

// leaf is a step that ends.
func leaf(step api.Proof, at ...int) *tree {
	t := tree{step: step, at: at}
	return t.done()
}

// stepOn is a step that takes a fact apart, and lays so many ahead of each kid.
func stepOn(kind api.ProofKind, fact, first, many int) *tree {
	return &tree{step: api.Proof{Kind: kind}, at: []int{fact}, first: first, many: many}
}

// laying is a step that lays one fact ahead of what follows.
func laying(step api.Proof, first int, at ...int) *tree {
	return &tree{step: step, at: at, first: first, many: 1, kids: make([]*tree, 1)}
}
