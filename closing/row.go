package closing

import (
	"whetstone/api"
	"whetstone/term"
)

// edge leads along the fact at a place to a term, known by its number.
type edge struct{ at, to int }

// row are facts, counted from 0 on, and where their edges lead.
type row struct {
	numbers
	classes
	facts []api.Term
	parts int            // of all facts
	edges map[int][]edge // that lead on from a term, by its number; their places rise
}

func newRow(facts ...api.Term) row {
	r := row{numbers: newNumbers(), edges: map[int][]edge{}}
	r.lay(facts...)
	return r
}

// lay lays facts behind the row.
func (r *row) lay(facts ...api.Term) {
	for _, fact := range facts {
		if fact.Kind == api.TermEq && len(fact.Kids) == 2 {
			a, b := r.number(fact.Kids[0]), r.number(fact.Kids[1])
			r.edges[a] = append(r.edges[a], edge{len(r.facts), b})
			r.edges[b] = append(r.edges[b], edge{len(r.facts), a})
			r.join(a, b)
		}
		r.facts = append(r.facts, fact)
		r.parts += term.Size(fact)
	}
}

// path is the shortest one from a to b, of as short ones the least: so at each term the first edge is gone that comes
// nearer to b.
func (r *row) path(a, b int) ([]int, bool) {
	if r.class(a) != r.class(b) {
		return nil, false
	}
	var at []int
	far := r.far(a, b)
	for here := a; here != b; {
		next := r.nearer(here, far)
		at = append(at, next.at)
		here = next.to
	}
	return at, true
}

// far is how far terms are from b: of all that are nearer than a, and of a, to which there must be a path.
func (r *row) far(a, b int) map[int]int {
	far := map[int]int{b: 0}
	ahead := []int{b}
	for ahead[0] != a {
		here := ahead[0]
		ahead = ahead[1:]
		for _, e := range r.edges[here] {
			if _, met := far[e.to]; !met {
				far[e.to] = far[here] + 1
				ahead = append(ahead, e.to)
			}
		}
	}
	return far
}

// nearer is the first edge that leads on from here to a term that is not as far.
func (r *row) nearer(here int, far map[int]int) edge {
	for _, e := range r.edges[here] {
		if many, met := far[e.to]; met && many < far[here] {
			return e
		}
	}
	return edge{to: here}
}
