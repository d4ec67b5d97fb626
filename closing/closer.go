package closing

import (
	"whetstone/api"
	"whetstone/cong"
)

// closer is one who lays facts: of pairs of apps that are due what follows of them.
type closer struct {
	row
	sorts
	apps   []member          // of the facts as they were given
	groups map[group]int     // those that were met, by numbers from 0 on
	taken  map[pair]struct{} // pairs that were
	steps  []api.Proof
}

// newCloser stands behind these facts, in memory of its own.
func newCloser(s sorts, facts ...api.Term) *closer {
	c := &closer{row: newRow(), sorts: s, groups: map[group]int{}, taken: map[pair]struct{}{}}
	own := make([]api.Term, len(facts))
	for i, fact := range facts {
		own[i] = copied(fact)
	}
	for _, a := range appsOf(c.numbers, own...) {
		c.apps = append(c.apps, member{app: a, truth: s.tellsTruths(a.Name), key: group{a.Name, none}})
	}
	c.lay(own...)
	return c
}

// take tells the steps that a pair asks for. The facts have sorts, so cong takes what it is asked here.
func (c *closer) take(p pair) {
	c.taken[p] = struct{}{}
	name, at := c.apps[p.first].Name, c.equality(p)
	fact, _ := cong.Apply(c.datas, c.scope, c.facts, at, name)
	c.tell(api.Proof{Kind: api.ProofApply, At: []int{at}, Name: name}, fact)
}

// equality is the place of a fact by which what the one app is of is what the other one is of; where there is none yet,
// it is laid.
func (c *closer) equality(p pair) int {
	first, second := c.apps[p.first], c.apps[p.second]
	at, _ := c.path(first.of, second.of)
	if len(at) == 1 {
		return at[0]
	}
	a, b := first.Kids[0], second.Kids[0]
	fact, _ := cong.Same(c.facts, a, b, at...)
	c.tell(api.Proof{Kind: api.ProofSame, Terms: []api.Term{copied(a), copied(b)}, At: at}, fact)
	return len(c.facts) - 1
}

// tell tells a step, and lays what follows of it.
func (c *closer) tell(step api.Proof, fact api.Term) {
	c.steps = append(c.steps, step)
	c.lay(fact)
}
