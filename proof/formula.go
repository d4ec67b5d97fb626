package proof

import (
	"whetstone/api"
	"whetstone/num"
)

func node(kind api.TermKind, kids ...api.Term) api.Term {
	return api.Term{Kind: kind, Kids: kids}
}

func number(n api.Int) api.Term {
	return api.Term{Kind: api.TermNum, Num: n}
}

func atMost(a, b api.Term) api.Term {
	return node(api.TermLe, a, b)
}

// less is a less b.
func less(a, b api.Term) api.Term {
	minus := node(api.TermScale, b)
	minus.Num = num.Of(-1)
	return node(api.TermAdd, a, minus)
}
