package proof

import (
	"slices"

	"whetstone/api"
)

// rows are what each Kid of a step has laid behind the facts, a row for each.
type rows [][]api.Term

// rule tells whether a step is as the row of its kind says, and what it lays then.
type rule func() (laid rows, ok bool)

// step is one at work: the one whose turn it is, and the facts before which it stands.
type step struct {
	api.Proof
	sheet
	kinds map[api.ProofKind]rule
}

// turn is that of a step which stands before the first facts of the sheet, so many, and what is laid behind these.
type turn struct {
	proof *api.Proof
	many  int
	laid  []api.Term
}

func newStep(datas []api.Data, scope []api.Sorted) *step {
	s := &step{sheet: sheet{datas: datas, scope: scope}}
	s.kinds = map[api.ProofKind]rule{
		api.ProofPart: s.part, api.ProofCase: s.ways, api.ProofLess: s.split,
		api.ProofCut: s.cut, api.ProofSame: s.same, api.ProofApply: s.apply,
		api.ProofFalse: s.falsehood, api.ProofClash: s.clash, api.ProofFarkas: s.farkas,
	}
	return s
}

// ends tells whether p is what it must be, to the end of each Kid. What is ahead stands in a row, and not in nested
// calls: a certificate may be deeper than these can go. A Kid's turn comes when those ahead of it are done with to their
// ends, and what they laid is of no more use: so one sheet is enough.
func (s *step) ends(p api.Proof) bool {
	ahead := []turn{{proof: &p, many: len(s.facts)}}
	for len(ahead) > 0 {
		last := len(ahead) - 1
		s.enter(ahead[last])
		ahead = ahead[:last]
		laid, ok := s.follow()
		if !ok {
			return false
		}
		for i := range slices.Backward(s.Kids) {
			ahead = append(ahead, turn{&s.Kids[i], len(s.facts), laid[i]})
		}
	}
	return true
}

func (s *step) enter(now turn) {
	s.Proof = *now.proof
	s.back(now.many)
	s.lay(now.laid...)
}

// follow is what the step lays by the rule of its kind.
func (s *step) follow() (rows, bool) {
	follow, known := s.kinds[s.Kind]
	if !known || !s.areThere(s.At...) {
		return nil, false
	}
	return follow()
}

// shape is how many of its parts a step has. A Name, a Num are there only where it says so.
type shape struct {
	at, coefs, terms, kids int
	name, num              bool
}

func (s *step) has(f shape) bool {
	return len(s.At) == f.at && len(s.Coefs) == f.coefs && len(s.Terms) == f.terms && len(s.Kids) == f.kids &&
		(f.name || s.Name == "") && (f.num || isZero(s.Num))
}

func isZero(n api.Int) bool {
	return !n.Neg && len(n.Digits) == 0
}
