package kind

import (
	"slices"

	"whetstone/api"
	"whetstone/term"
)

// shape is a type that is asked what it is, as far as can be told without its parts.
type shape struct{ *api.Type }

func (s shape) base() bool {
	return !s.Fun && len(s.Params) == 0 && len(s.Result) == 0
}

func (s shape) functions() bool {
	return s.Fun && len(s.Result) == 1 && s.Sort == "" && isZero(s.Refine)
}

// right tells whether the sort of a base type is.
func (s shape) right(datas []api.Data) bool {
	if s.Sort == api.SortInt || s.Sort == api.SortBool {
		return true
	}
	return slices.ContainsFunc(datas, func(d api.Data) bool { return d.Name == s.Sort })
}

// twice tells whether two parameters have one name.
func (s shape) twice() bool {
	for i, p := range s.Params {
		if slices.ContainsFunc(s.Params[:i], func(ahead api.Param) bool { return ahead.Name == p.Name }) {
			return true
		}
	}
	return false
}

// fits tells whether another type has as many parts.
func (s shape) fits(other shape) bool {
	return len(s.Params) == len(other.Params) && len(s.Result) == len(other.Result)
}

func (s shape) same(other shape) bool {
	return s.fits(other) && s.Fun == other.Fun && s.Sort == other.Sort && sameTerm(s.Refine, other.Refine) &&
		slices.EqualFunc(s.Params, other.Params, func(a, b api.Param) bool { return a.Name == b.Name })
}

func (s shape) alike(other shape) bool {
	if s.base() {
		return other.base() && s.Sort == other.Sort
	}
	return s.functions() && other.functions() && s.fits(other)
}

// pair are two types that stand at the same place.
type pair struct{ a, b *api.Type }

// throughout tells whether a and b are so, and all their parts with those at the same places. Types that are so have as
// many parts. What is ahead stands in a row, not in nested calls, so that types of any depth are taken.
func throughout(so func(a, b shape) bool, a, b *api.Type) bool {
	ahead := []pair{{a, b}}
	for len(ahead) > 0 {
		last := len(ahead) - 1
		now := ahead[last]
		ahead = ahead[:last]
		if !so(shape{now.a}, shape{now.b}) {
			return false
		}
		for i := range now.a.Params {
			ahead = append(ahead, pair{&now.a.Params[i].Type, &now.b.Params[i].Type})
		}
		for i := range now.a.Result {
			ahead = append(ahead, pair{&now.a.Result[i], &now.b.Result[i]})
		}
	}
	return true
}

// sameTerm tells whether two terms are the same: these have one Key.
func sameTerm(a, b api.Term) bool {
	return term.Key(a) == term.Key(b)
}

func isZero(t api.Term) bool {
	return t.Kind == 0 && t.Name == "" && !t.Num.Neg && len(t.Num.Digits) == 0 && len(t.Kids) == 0
}
