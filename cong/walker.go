package cong

import (
	"whetstone/api"
	"whetstone/term"
)

// row are facts, counted from 0 on.
type row []api.Term

// sides are those of the edge at that place; where there is none, api.ErrProof is thrown.
func (r row) sides(at int) (a, b api.Term) {
	need(at >= 0 && at < len(r), api.ErrProof)
	fact := r[at]
	need(fact.Kind == api.TermEq && len(fact.Kids) == 2, api.ErrProof)
	return fact.Kids[0], fact.Kids[1]
}

// edge leads from one term to the other one, and back.
type edge struct{ from, to int }

// walker goes along a row of facts. It knows terms by numbers: those of one Key have one number. What it knows of a fact
// it keeps while it goes: a path may go along great facts very often.
type walker struct {
	row
	numbers map[string]int // of terms, by their Keys
	edges   map[int]edge   // by their places
	here    int
}

// walkerAt stands at a term.
func walkerAt(t api.Term, facts ...api.Term) *walker {
	w := &walker{row: facts, numbers: map[string]int{}, edges: map[int]edge{}}
	w.here = w.number(t)
	return w
}

// along goes along the places; where one leads nowhere, api.ErrProof is thrown.
func (w *walker) along(places ...int) {
	for _, at := range places {
		w.here = w.edge(at).other(w.here)
	}
}

// end throws api.ErrProof, unless the walker stands at t.
func (w *walker) end(t api.Term) {
	need(w.here == w.number(t), api.ErrProof)
}

func (w *walker) edge(at int) edge {
	known, met := w.edges[at]
	if met {
		return known
	}
	a, b := w.sides(at)
	known = edge{w.number(a), w.number(b)}
	w.edges[at] = known
	return known
}

func (w *walker) number(t api.Term) int {
	key := term.Key(t)
	known, met := w.numbers[key]
	if met {
		return known
	}
	next := len(w.numbers)
	w.numbers[key] = next
	return next
}

// other is where the edge leads from here; where it leads nowhere, api.ErrProof is thrown.
func (e edge) other(here int) int {
	switch here {
	case e.from:
		return e.to
	case e.to:
		return e.from
	}
	panic(api.ErrProof)
}
