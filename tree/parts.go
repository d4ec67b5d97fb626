package tree

import (
	"whetstone/api"
	"whetstone/term"
)

// hasAtom tells whether an expression's own atom counts.
func hasAtom(e *api.Expr) bool {
	return e.Kind == api.ExprRet || e.Kind == api.ExprIf || e.Kind == api.ExprMatch
}

// atoms is how many an expression has, but those of its bodies.
func atoms(e *api.Expr) int {
	n := 0
	if hasAtom(e) {
		n++
	}
	for i := range e.Rhs {
		n += len(e.Rhs[i].Atoms)
	}
	return n
}

// bodies are the rows of expressions that stand in an expression.
func bodies(e *api.Expr) [][]api.Expr {
	l := [][]api.Expr{e.Body}
	for i := range e.Arms {
		l = append(l, e.Arms[i].Body)
	}
	for i := range e.Rhs {
		l = append(l, e.Rhs[i].Body)
	}
	return l
}

// own is a row in memory of its own, its elements as they are.
func own[T any](row []T) []T {
	return append([]T(nil), row...)
}

func ownInt(n api.Int) api.Int {
	return api.Int{Neg: n.Neg, Digits: own(n.Digits)}
}

// ownTerm is t in memory of its own, however many parts it has.
func ownTerm(t api.Term) api.Term {
	made, _ := term.Of(term.Key(t))
	return made
}
