package solver

import (
	"slices"

	"whetstone/api"
)

// turnOf is a tree's, that is to be told.
type turnOf struct {
	*tree
	to    *api.Proof
	first int // the first fact that is laid ahead
	many  int // how many are
	laid  int // how many facts are there then
}

// proof is the certificate that a tree stands for, behind so many facts, in memory of its own. What is ahead stands in a
// row, and not in nested calls: it may be deeper than these can go.
func (t *tree) proof(given int) api.Proof {
	var told api.Proof
	places := map[int]int{}
	ahead := []turnOf{{tree: t, to: &told, many: given, laid: given}}
	for len(ahead) > 0 {
		last := len(ahead) - 1
		now := ahead[last]
		ahead = ahead[:last]
		for i := range now.many {
			places[now.first+i] = now.laid - now.many + i
		}
		*now.to = now.stepAt(places)
		for i := range slices.Backward(now.kids) {
			kid := now.kids[i]
			ahead = append(ahead, turnOf{kid, &now.to.Kids[i], now.tree.first, now.tree.many, now.laid + now.tree.many})
		}
	}
	return told
}

// stepAt is the step of a tree, whose facts have these places, with room for its kids.
func (t *tree) stepAt(places map[int]int) api.Proof {
	step := t.step
	step.At = make([]int, len(t.at))
	for i, fact := range t.at {
		step.At[i] = places[fact]
	}
	step.Coefs = slices.Clone(step.Coefs)
	for i, c := range step.Coefs {
		step.Coefs[i] = api.Ratio{Num: copiedInt(c.Num), Den: copiedInt(c.Den)}
	}
	step.Terms = slices.Clone(step.Terms)
	for i, term := range step.Terms {
		step.Terms[i] = copied(term)
	}
	step.Num = copiedInt(step.Num)
	step.Kids = make([]api.Proof, len(t.kids))
	return step
}

func copiedInt(n api.Int) api.Int {
	return api.Int{Neg: n.Neg, Digits: slices.Clone(n.Digits)}
}

// copied is t in memory of its own.
func copied(t api.Term) api.Term {
	ahead := []*api.Term{&t}
	for len(ahead) > 0 {
		last := len(ahead) - 1
		part := ahead[last]
		ahead = ahead[:last]
		part.Num = copiedInt(part.Num)
		part.Kids = slices.Clone(part.Kids)
		for i := range part.Kids {
			ahead = append(ahead, &part.Kids[i])
		}
	}
	return t
}
