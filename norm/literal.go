package norm

import "whetstone/api"

// kinds is how many kids kinds have.
type kinds map[api.TermKind]int

// literalKinds are those that a literal may have.
func literalKinds() kinds {
	return kinds{
		api.TermTrue: 0, api.TermFalse: 0, api.TermVar: 0,
		api.TermApp: 1, api.TermNot: 1,
		api.TermEq: 2, api.TermLe: 2,
	}
}

// fits tells whether t's kind is one of these, and t has as many kids.
func (k kinds) fits(t api.Term) bool {
	many, known := k[t.Kind]
	return known && many == len(t.Kids)
}

func (k kinds) literal(t api.Term) bool {
	if t.Kind != api.TermNot {
		return k.fits(t)
	}
	return k.fits(t) && k.denied(t.Kids[0])
}

// denied tells whether TermNot of t is a literal.
func (k kinds) denied(t api.Term) bool {
	switch t.Kind {
	case api.TermVar, api.TermApp, api.TermEq:
		return k.fits(t)
	}
	return false
}
