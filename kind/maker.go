package kind

import (
	"whetstone/api"
	"whetstone/term"
)

// given are the names with the terms that are put for them. A base type's v is none of the outside.
func given(l []string, terms []api.Term) names[*api.Term] {
	var n names[*api.Term]
	for i := range min(len(l), len(terms)) {
		if l[i] != value {
			n.in(named[*api.Term]{l[i], &terms[i]})
		}
	}
	return n
}

// stays lets a parameter come into the scope: nothing is put for its name there.
func stays(p *api.Param) []named[*api.Term] {
	return []named[*api.Term]{{name: p.Name}}
}

// put makes a type anew, its parts apart, with the terms put into its refinement for the names.
func put(w work[*api.Term]) api.Errno {
	var l []string
	var terms []api.Term
	for _, name := range term.Free(w.Refine) {
		if is, known := w.of(name); known && is != nil {
			l, terms = append(l, name), append(terms, *is)
		}
	}
	refine, e := term.Subst(w.Refine, l, terms)
	w.own(refine)
	return e
}

// own gives a type that refinement, and rows of its own, with the parts as they are.
func (s shape) own(refine api.Term) {
	s.Refine = refine
	s.Params = append([]api.Param(nil), s.Params...)
	s.Result = append([]api.Type(nil), s.Result...)
}

// remade is t in memory of its own.
func remade(t api.Type) api.Type {
	look := func(w work[*api.Term]) api.Errno {
		w.own(copied(w.Refine))
		return api.OK
	}
	w := walker[*api.Term]{look: look, bind: stays}
	w.walk(&t)
	return t
}

// copied is t in memory of its own, however many parts it has.
func copied(t api.Term) api.Term {
	made, _ := term.Of(term.Key(t))
	return made
}
