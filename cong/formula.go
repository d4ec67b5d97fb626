package cong

import (
	"whetstone/api"
	"whetstone/term"
)

func node(kind api.TermKind, kids ...api.Term) api.Term {
	return api.Term{Kind: kind, Kids: kids}
}

// apply is the function of that name of t.
func apply(name string, t api.Term) api.Term {
	f := node(api.TermApp, t)
	f.Name = name
	return f
}

// alike says that a and b, of that sort, are the same. There is no equality of truths: of these each one follows of the
// other one.
func alike(sort string, a, b api.Term) api.Term {
	if sort == api.SortBool {
		return node(api.TermAnd, follows(a, b), follows(b, a))
	}
	return node(api.TermEq, a, b)
}

// follows says of truths that b is one if a is.
func follows(a, b api.Term) api.Term {
	return node(api.TermOr, node(api.TermNot, a), b)
}

// copied is t in memory of its own, made anew out of its Key: so it may have any size, also one that term.Subst refuses.
func copied(t api.Term) api.Term {
	made, _ := term.Of(term.Key(t))
	return made
}
