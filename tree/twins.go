package tree

import (
	"slices"

	"whetstone/api"
	"whetstone/term"
)

// twins holds two expressions against each other, part by part. What is ahead stands in a row, so that expressions of any
// depth are taken.
type twins struct{ ahead []func() bool }

// rest tells whether what is ahead is the same, and what then comes ahead.
func (t *twins) rest() bool {
	for len(t.ahead) > 0 {
		last := len(t.ahead) - 1
		so := t.ahead[last]
		t.ahead = t.ahead[:last]
		if !so() {
			return false
		}
	}
	return true
}

// rows tells whether two rows are as long; their elements, place by place, come ahead.
func rows[T any](t *twins, a, b []T, same func(a, b *T) bool) bool {
	if len(a) != len(b) {
		return false
	}
	for i := range a {
		t.ahead = append(t.ahead, func() bool { return same(&a[i], &b[i]) })
	}
	return true
}

func (t *twins) expr(a, b *api.Expr) bool {
	return a.Kind == b.Kind && a.Name == b.Name && sameAtom(a.Atom, b.Atom) && rows(t, a.Type, b.Type, t.kind) &&
		rows(t, a.Rhs, b.Rhs, t.side) && rows(t, a.Body, b.Body, t.expr) && rows(t, a.Arms, b.Arms, t.arm)
}

func (t *twins) arm(a, b *api.Arm) bool {
	return a.Con == b.Con && slices.Equal(a.Names, b.Names) && rows(t, a.Body, b.Body, t.expr)
}

func (t *twins) side(a, b *api.Rhs) bool {
	return a.Kind == b.Kind && a.Name == b.Name && slices.EqualFunc(a.Atoms, b.Atoms, sameAtom) && rows(t, a.Params, b.Params, t.param) &&
		rows(t, a.Result, b.Result, t.kind) && rows(t, a.Body, b.Body, t.expr) && rows(t, a.Terms, b.Terms, sameTerm)
}

func (t *twins) param(a, b *api.Param) bool {
	return a.Name == b.Name && t.kind(&a.Type, &b.Type)
}

func (t *twins) kind(a, b *api.Type) bool {
	return a.Fun == b.Fun && a.Sort == b.Sort && sameTerm(&a.Refine, &b.Refine) && rows(t, a.Params, b.Params, t.param) && rows(t, a.Result, b.Result, t.kind)
}

// sameTerm tells whether two terms are the same: these have one Key.
func sameTerm(a, b *api.Term) bool {
	return term.Key(*a) == term.Key(*b)
}

func sameAtom(a, b api.Atom) bool {
	return a.Kind == b.Kind && a.Name == b.Name && a.Truth == b.Truth && a.Num.Neg == b.Num.Neg && slices.Equal(a.Num.Digits, b.Num.Digits)
}
