package tree

import (
	"slices"

	"whetstone/api"
)

// walker goes through expressions, each ahead of its rows, with the names that are bound there. What is ahead stands in a
// row, the next one last, not in nested calls, so that expressions of any depth are taken.
type walker struct {
	bound
	atom  func(a *api.Atom) // what is made of an atom
	term  func(t *api.Term) // and of a term
	anew  bool              // all is made, not only what counts for its names: each row is laid anew ahead of its parts
	ahead []func()
}

// run does it, and what then is ahead, till nothing is.
func (w *walker) run(do func()) {
	w.next(do)
	for len(w.ahead) > 0 {
		last := len(w.ahead) - 1
		do := w.ahead[last]
		w.ahead = w.ahead[:last]
		do()
	}
}

// next lets these come ahead of all others, in their order.
func (w *walker) next(l ...func()) {
	for _, do := range slices.Backward(l) {
		w.ahead = append(w.ahead, do)
	}
}

// each is what is to do with the elements of a row, in their order.
func each[T any](do func(part *T), row []T) []func() {
	var l []func()
	for i := range row {
		l = append(l, func() { do(&row[i]) })
	}
	return l
}

// within is what is to do where these names are bound.
func (w *walker) within(names []string, l ...func()) []func() {
	begin, end := func() { w.in(names...) }, func() { w.out(names...) }
	return slices.Concat([]func(){begin}, l, []func(){end})
}

func (w *walker) expr(e *api.Expr) {
	if w.anew {
		e.Type, e.Rhs, e.Body, e.Arms = own(e.Type), own(e.Rhs), own(e.Body), own(e.Arms)
	}
	if w.anew || hasAtom(e) {
		w.atom(&e.Atom)
	}
	var names []string
	if e.Kind == api.ExprLet {
		names = []string{e.Name}
	}
	body := w.within(names, each(w.expr, e.Body)...)
	w.next(slices.Concat(each(w.kind, e.Type), each(w.side, e.Rhs), body, each(w.arm, e.Arms))...)
}

func (w *walker) arm(a *api.Arm) {
	if w.anew {
		a.Names, a.Body = own(a.Names), own(a.Body)
	}
	w.next(w.within(a.Names, each(w.expr, a.Body)...)...)
}

func (w *walker) side(r *api.Rhs) {
	if w.anew {
		r.Atoms, r.Params, r.Result = own(r.Atoms), own(r.Params), own(r.Result)
		r.Body, r.Terms = own(r.Body), own(r.Terms)
	}
	for i := range r.Atoms {
		w.atom(&r.Atoms[i])
	}
	made := slices.Concat(each(w.kind, r.Result), each(w.expr, r.Body))
	w.next(slices.Concat(w.under(r.Params, made...), each(w.term, r.Terms))...)
}

// kind goes through a type. Of one of functions the refinement does not count, of others nothing else does.
func (w *walker) kind(t *api.Type) {
	if w.anew {
		t.Params, t.Result = own(t.Params), own(t.Result)
	}
	if w.anew || !t.Fun {
		w.term(&t.Refine)
	}
	if w.anew || t.Fun {
		w.next(w.under(t.Params, each(w.kind, t.Result)...)...)
	}
}

// under is what is to do with the types of parameters, each with those ahead bound, and then with all of them bound.
func (w *walker) under(params []api.Param, then ...func()) []func() {
	var l []func()
	var names []string
	for i := range params {
		p := &params[i]
		l = append(l, func() { w.kind(&p.Type) }, func() { w.in(p.Name) })
		names = append(names, p.Name)
	}
	return slices.Concat(l, then, []func(){func() { w.out(names...) }})
}
