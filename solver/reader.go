package solver

import (
	"whetstone/api"
	"whetstone/linear"
	"whetstone/num"
	"whetstone/term"
)

// reader is one who reads in a model what terms come to.
type reader struct {
	sorts
	model  []api.Atomic
	places map[string]int // in the model, by Key
}

// newReader tells false of what is no model.
func newReader(datas []api.Data, scope []api.Sorted, model []api.Atomic) (reader, bool) {
	r := reader{newSorts(datas, scope), model, map[string]int{}}
	for i, a := range model {
		if i > 0 && model[i-1].Key >= a.Key || !isAtomKey(a.Key) || !num.Right(a.Num) {
			return reader{}, false
		}
		r.places[a.Key] = i
	}
	return r, true
}

func isAtomKey(key string) bool {
	t, ok := term.Of(key)
	return ok && isAtom(t)
}

func isAtom(t api.Term) bool {
	return t.Kind == api.TermVar || t.Kind == api.TermApp
}

// turn is a part's; a part has a second one, when its kids are done.
type turn struct {
	part *api.Term
	done bool
}

// holds tells what a truth comes to. What is ahead stands in a row, and not in nested calls: a term may be deeper than
// these can go.
func (r reader) holds(t api.Term) bool {
	var told []bool
	ahead := []turn{{part: &t}}
	for len(ahead) > 0 {
		last := len(ahead) - 1
		now := ahead[last]
		if kids := truths(now.part); !now.done && len(kids) > 0 {
			ahead[last].done = true
			for i := range kids {
				ahead = append(ahead, turn{part: &kids[i]})
			}
			continue
		}
		ahead = ahead[:last]
		first := len(told) - len(truths(now.part))
		told = append(told[:first], r.comesTo(now.part, told[first:]...))
	}
	return told[0]
}

// truths are the kids of a part that are.
func truths(part *api.Term) []api.Term {
	switch part.Kind {
	case api.TermNot, api.TermAnd, api.TermOr, api.TermIff:
		return part.Kids
	}
	return nil
}

// comesTo is what a part comes to, whose truths came to these.
func (r reader) comesTo(part *api.Term, kids ...bool) bool {
	switch part.Kind {
	case api.TermTrue:
		return true
	case api.TermEq:
		return r.areSame(part.Kids[0], part.Kids[1])
	case api.TermLe:
		return num.Cmp(r.number(part.Kids[0]), r.number(part.Kids[1])) <= 0
	case api.TermNot:
		return !kids[0]
	case api.TermIff:
		return kids[0] == kids[1]
	case api.TermAnd:
		return !has(false, kids...)
	case api.TermOr:
		return has(true, kids...)
	}
	return isAtom(*part) && r.said(term.Key(*part)).Truth
}

func has(is bool, l ...bool) bool {
	for _, b := range l {
		if b == is {
			return true
		}
	}
	return false
}

// said is what the model says of an atom: of one that is not there, as of a number 0, as of a truth false.
func (r reader) said(key string) api.Atomic {
	if at, met := r.places[key]; met {
		return r.model[at]
	}
	return api.Atomic{}
}

func (r reader) areSame(a, b api.Term) bool {
	if r.of(a) == api.SortInt {
		return num.Cmp(r.number(a), r.number(b)) == 0
	}
	return r.class(a) == r.class(b)
}

// number is what a sum comes to.
func (r reader) number(t api.Term) api.Int {
	sum, _ := linear.Of(t)
	total := sum.Const
	for i, key := range sum.Keys {
		total = num.Add(total, num.Mul(sum.Coefs[i], r.said(key).Num))
	}
	return total
}

// class is that of data: one that the model tells, or one of its own.
type class struct {
	of  int
	own string
}

func (r reader) class(t api.Term) class {
	key := term.Key(t)
	if at, met := r.places[key]; met {
		return class{of: r.model[at].Class}
	}
	return class{own: key}
}
