package proof

import (
	"whetstone/api"
	"whetstone/cong"
	"whetstone/linear"
	"whetstone/num"
	"whetstone/term"
)

// behind is what the one Kid of a step has behind the facts.
func behind(facts ...api.Term) rows {
	return rows{facts}
}

func (s *step) part() (rows, bool) {
	if !s.has(shape{at: 1, kids: 1}) {
		return nil, false
	}
	fact := s.facts[s.At[0]]
	return behind(fact.Kids...), fact.Kind == api.TermAnd
}

func (s *step) ways() (rows, bool) {
	if !s.has(shape{at: 1, kids: len(s.Kids)}) {
		return nil, false
	}
	fact := s.facts[s.At[0]]
	laid := make(rows, len(fact.Kids))
	for i := range laid {
		laid[i] = fact.Kids[i : i+1]
	}
	return laid, fact.Kind == api.TermOr && len(laid) == len(s.Kids)
}

func (s *step) split() (rows, bool) {
	if !s.has(shape{terms: 1, kids: 2, num: true}) || !s.isNumber(s.Terms[0]) || !num.Right(s.Num) {
		return nil, false
	}
	t, next := s.Terms[0], num.Add(s.Num, num.Of(1))
	return rows{{atMost(t, number(s.Num))}, {atMost(number(next), t)}}, true
}

func (s *step) cut() (rows, bool) {
	if !s.has(shape{at: len(s.At), coefs: len(s.At), kids: 1}) {
		return nil, false
	}
	total, ok := s.sum()
	if !ok || !total.canBeCut() {
		return nil, false
	}
	fact, ok := total.cut()
	return behind(fact), ok
}

func (s *step) same() (rows, bool) {
	if !s.has(shape{at: len(s.At), terms: 2, kids: 1}) || !s.hasSort(s.Terms[0]) {
		return nil, false
	}
	fact, e := cong.Same(s.facts, s.Terms[0], s.Terms[1], s.At...)
	return behind(fact), e == api.OK
}

func (s *step) apply() (rows, bool) {
	if !s.has(shape{at: 1, kids: 1, name: true}) {
		return nil, false
	}
	fact, e := cong.Apply(s.datas, s.scope, s.facts, s.At[0], s.Name)
	return behind(fact), e == api.OK
}

func (s *step) falsehood() (rows, bool) {
	return nil, s.has(shape{at: 1}) && s.facts[s.At[0]].Kind == api.TermFalse
}

func (s *step) clash() (rows, bool) {
	if !s.has(shape{at: 2}) {
		return nil, false
	}
	is, isNot := s.facts[s.At[0]], s.facts[s.At[1]]
	return nil, term.Key(node(api.TermNot, is)) == term.Key(isNot)
}

func (s *step) farkas() (rows, bool) {
	if !s.has(shape{at: len(s.At), coefs: len(s.At)}) {
		return nil, false
	}
	total, ok := s.sum()
	return nil, ok && total.canNotBe()
}

// sum is that of the facts At with Coefs, as many. An equality may be taken any number of times, what is at most the
// other one not less than 0 times.
func (s *step) sum() (sum, bool) {
	row := make([]api.Linear, len(s.At))
	for i, at := range s.At {
		l, ok := s.difference(at)
		if !ok || s.facts[at].Kind == api.TermLe && s.Coefs[i].Num.Neg {
			return sum{}, false
		}
		row[i] = l
	}
	keys, parts, number, ok := linear.Sum(s.Coefs, row...)
	return sum{keys, parts, number}, ok
}
