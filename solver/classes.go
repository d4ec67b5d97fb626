package solver

import (
	"slices"

	"whetstone/api"
)

// edge leads along a fact to an atom.
type edge struct{ fact, to int }

// head is a class, by its root, and a function's name.
type head struct {
	root int
	name string
}

// classes are those of atoms of data that are the same.
type classes struct {
	parents []int // of atoms; its own parent is a class's root
	sizes   []int // of classes, by their roots
	edges   [][]edge
	apps    [][]int      // of classes, by their roots: an app of each name
	heads   map[head]int // these
	unlike  []int        // facts that say of atoms that they are not the same
}

func newClasses(l ...atom) classes {
	many := len(l)
	c := classes{make([]int, many), make([]int, many), make([][]edge, many), make([][]int, many), map[head]int{}, nil}
	for at, a := range l {
		c.parents[at], c.sizes[at] = at, 1
		if a.of != none && numberKey(a.Num) == "" {
			c.heads[head{a.of, a.Name}] = at
			c.apps[a.of] = append(c.apps[a.of], at)
		}
	}
	return c
}

func (c *classes) root(at int) int {
	for c.parents[at] != at {
		at = c.parents[at]
	}
	return at
}

func (c *classes) areOne(a, b int) bool {
	return c.root(a) == c.root(b)
}

// path is along the facts by which a and b, of one class, came to be of one.
func (s *state) path(a, b int) []int {
	toward := map[int]edge{b: {}}
	ahead := []int{b}
	for ahead[0] != a {
		here := ahead[0]
		ahead = ahead[1:]
		for _, e := range s.edges[here] {
			s.left--
			if _, met := toward[e.to]; !met {
				toward[e.to] = edge{e.fact, here}
				ahead = append(ahead, e.to)
			}
		}
	}
	var facts []int
	for a != b {
		facts = append(facts, toward[a].fact)
		a = toward[a].to
	}
	return facts
}

// join makes one class of those of a and b, as a fact says, and lays what follows of functions of both.
func (s *state) join(a, b, fact int) {
	from, to := s.root(a), s.root(b)
	if s.sizes[from] > s.sizes[to] {
		from, to = to, from
	}
	s.parents[from] = to
	s.sizes[to] += s.sizes[from]
	s.edges[a] = append(s.edges[a], edge{fact, b})
	s.edges[b] = append(s.edges[b], edge{fact, a})
	apps := s.apps[to]
	var heads []head
	for _, app := range s.apps[from] {
		key := head{to, s.atomAt[app].Name}
		if other, met := s.heads[key]; met {
			s.apply(other, app)
			continue
		}
		s.heads[key] = app
		heads = append(heads, key)
		s.apps[to] = append(s.apps[to], app)
	}
	s.undo = append(s.undo, func() {
		for _, key := range heads {
			delete(s.heads, key)
		}
		s.apps[to] = apps
		s.edges[a], s.edges[b] = s.edges[a][:len(s.edges[a])-1], s.edges[b][:len(s.edges[b])-1]
		s.sizes[to] -= s.sizes[from]
		s.parents[from] = from
	})
}

// apply lays what follows of two apps of one name, of what is the same.
func (s *state) apply(f, g int) {
	a, b := s.atomAt[f].of, s.atomAt[g].of
	path := s.path(a, b)
	s.spend(dear(s.atomAt[f].deep + s.atomAt[g].deep))
	if len(path) > 1 {
		s.derive(laying(s.sameness(a, b), s.next(), path...), s.link(a, b))
		path = []int{s.next() - 1}
	}
	if s.nodeAt[s.facts[path[0]]].a != a {
		f, g = g, f
	}
	s.derive(laying(api.Proof{Kind: api.ProofApply, Name: s.atomAt[f].Name}, s.next(), path...), s.link(f, g))
}

// dear is how much what has so many parts costs. All that is laid together grows with the square of how deep atoms are.
func dear(parts int) int {
	return parts + parts*parts/256
}

// sameness is the step that tells that a and b are the same.
func (s *state) sameness(a, b int) api.Proof {
	s.spend(dear(s.atomAt[a].deep + s.atomAt[b].deep))
	return api.Proof{Kind: api.ProofSame, Terms: []api.Term{s.atomAt[a].Term, s.atomAt[b].Term}}
}

// isUnlike tells a fact by which atoms of the classes of a and b are not the same.
func (s *state) isUnlike(a, b int) (int, bool) {
	a, b = s.root(a), s.root(b)
	s.spend(len(s.unlike) / 2)
	at := slices.IndexFunc(s.unlike, func(fact int) bool {
		n := s.nodeAt[s.facts[fact]]
		c, d := s.root(n.a), s.root(n.b)
		return a == c && b == d || a == d && b == c
	})
	if at < 0 {
		return none, false
	}
	return s.unlike[at], true
}
