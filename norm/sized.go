package norm

import (
	"whetstone/api"
	"whetstone/term"
)

// sized is a term in the making, and how many parts it has. Its lists may be those of others, also of what was given.
type sized struct {
	api.Term
	parts int
}

// sum is how many parts a term of such kids has. How much too great is what is too great is of no account: so no sum
// runs over.
func sum(kids ...sized) int {
	parts := 1
	for _, kid := range kids {
		parts = min(parts+kid.parts, api.MaxTerm+1)
	}
	return parts
}

// kept is t as it is.
func kept(t api.Term) sized {
	return sized{t, term.Size(t)}
}

// node is a term that is made anew. Of what is too great nothing is made, but its size is told.
func node(kind api.TermKind, kids ...sized) sized {
	made := sized{parts: sum(kids...)}
	if made.parts > api.MaxTerm {
		return made
	}
	made.Kind = kind
	for _, kid := range kids {
		made.Kids = append(made.Kids, kid.Term)
	}
	return made
}

func and(l ...sized) sized {
	return node(api.TermAnd, l...)
}

func or(l ...sized) sized {
	return node(api.TermOr, l...)
}

// below says of numbers that a is below b: a and 1 is at most b.
func below(a, b sized) sized {
	one := kept(api.Term{Kind: api.TermNum, Num: api.Int{Digits: []uint32{1}}})
	return node(api.TermLe, node(api.TermAdd, a, one), b)
}

// both is what a formula is pushed down to: with is, and without.
type both struct{ pushed, denied sized }

func (b both) way(is bool) sized {
	if is {
		return b.pushed
	}
	return b.denied
}

// ways are all those of l with is, or without.
func ways(is bool, l ...both) []sized {
	row := make([]sized, len(l))
	for i, b := range l {
		row[i] = b.way(is)
	}
	return row
}
