package norm

import (
	"slices"

	"whetstone/api"
	"whetstone/term"
)

// sorts are those that terms have in a scope.
type sorts struct {
	datas []api.Data
	scope []api.Sorted
}

func (s sorts) sort(t api.Term) (string, api.Errno) {
	return term.Sort(s.datas, s.scope, t)
}

func (s sorts) isNumber(t api.Term) bool {
	sort, e := s.sort(t)
	return e == api.OK && sort == api.SortInt
}

// formula is one at work, that has a sort: the part whose turn it is, and the sorts.
type formula struct {
	api.Term
	sorts
}

// turn is that of a part: ahead of its kids, and behind them.
type turn struct {
	part   *api.Term
	behind bool
}

// push is what the formula is pushed down to. Each part is pushed both ways, once: it may come into what is made very
// often. What is ahead stands in a row, and not in nested calls: a formula may be deeper than these can go.
func (f formula) push() both {
	var told []both // of the parts whose formula's turn is still ahead
	whole := f.Term
	ahead := []turn{{part: &whole}}
	for len(ahead) > 0 {
		last := len(ahead) - 1
		now := ahead[last]
		ahead = ahead[:last]
		f.Term = *now.part
		switch {
		case !f.joins():
			told = append(told, f.alone())
		case now.behind:
			first := len(told) - len(f.Kids)
			told = append(told[:first], f.joined(told[first:]...))
		default:
			ahead = append(ahead, turn{now.part, true})
			for i := range slices.Backward(f.Kids) {
				ahead = append(ahead, turn{part: &f.Kids[i]})
			}
		}
	}
	return told[0]
}

// joins tells whether the part is made of formulas.
func (f formula) joins() bool {
	switch f.Kind {
	case api.TermNot, api.TermAnd, api.TermOr, api.TermIff:
		return true
	}
	return false
}

// joined is what a part is pushed down to that joins formulas, these being pushed down to that.
func (f formula) joined(kids ...both) both {
	switch f.Kind {
	case api.TermNot:
		return both{kids[0].denied, kids[0].pushed}
	case api.TermAnd:
		return both{and(ways(true, kids...)...), or(ways(false, kids...)...)}
	case api.TermOr:
		return both{or(ways(true, kids...)...), and(ways(false, kids...)...)}
	}
	a, b := kids[0], kids[1]
	return both{
		and(or(a.denied, b.pushed), or(b.denied, a.pushed)),
		and(or(a.pushed, b.pushed), or(a.denied, b.denied)),
	}
}

// alone is what a part is pushed down to that joins no formulas.
func (f formula) alone() both {
	switch {
	case f.Kind == api.TermTrue:
		return both{node(api.TermTrue), node(api.TermFalse)}
	case f.Kind == api.TermFalse:
		return both{node(api.TermFalse), node(api.TermTrue)}
	case f.Kind == api.TermLe:
		return both{kept(f.Term), below(kept(f.Kids[1]), kept(f.Kids[0]))}
	case f.Kind == api.TermEq && f.isNumber(f.Kids[0]):
		a, b := kept(f.Kids[0]), kept(f.Kids[1])
		return both{kept(f.Term), or(below(a, b), below(b, a))}
	}
	it := kept(f.Term)
	return both{it, node(api.TermNot, it)}
}
