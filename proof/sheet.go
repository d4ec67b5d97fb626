package proof

import (
	"whetstone/api"
	"whetstone/linear"
	"whetstone/norm"
	"whetstone/term"
)

// sheet are the facts before which a step stands, counted from 0 on, and the sorts of what stands in them.
type sheet struct {
	datas       []api.Data
	scope       []api.Sorted
	facts       []api.Term
	differences []*api.Linear // of a fact's sides, where they were asked for: often many steps have one fact in their sums
}

// suppose lays the facts of the obligation.
func (s *sheet) suppose(o api.Obligation) api.Errno {
	for _, hyp := range o.Hyps {
		if e := s.push(hyp, true); e != api.OK {
			return e
		}
	}
	return s.push(o.Goal, false)
}

func (s *sheet) push(t api.Term, is bool) api.Errno {
	fact, e := norm.Push(s.datas, s.scope, t, is)
	if e == api.OK {
		s.lay(fact)
	}
	return e
}

func (s *sheet) lay(facts ...api.Term) {
	s.facts = append(s.facts, facts...)
	s.differences = append(s.differences, make([]*api.Linear, len(facts))...)
}

// back leaves the first facts alone, so many.
func (s *sheet) back(many int) {
	s.facts, s.differences = s.facts[:many], s.differences[:many]
}

func (s *sheet) areThere(places ...int) bool {
	for _, at := range places {
		if at < 0 || at >= len(s.facts) {
			return false
		}
	}
	return true
}

func (s *sheet) hasSort(t api.Term) bool {
	_, e := term.Sort(s.datas, s.scope, t)
	return e == api.OK
}

func (s *sheet) isNumber(t api.Term) bool {
	sort, e := term.Sort(s.datas, s.scope, t)
	return e == api.OK && sort == api.SortInt
}

// difference is the fact's first side less the other one, and true; false, unless the fact holds numbers against each
// other.
func (s *sheet) difference(at int) (api.Linear, bool) {
	if s.differences[at] != nil {
		return *s.differences[at], true
	}
	fact := s.facts[at]
	if fact.Kind != api.TermLe && fact.Kind != api.TermEq || !s.isNumber(fact.Kids[0]) {
		return api.Linear{}, false
	}
	l, ok := linear.Of(less(fact.Kids[0], fact.Kids[1]))
	if ok {
		s.differences[at] = &l
	}
	return l, ok
}
