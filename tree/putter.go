package tree

import (
	"whetstone/api"
	"whetstone/term"
)

// putter puts atoms in the places of names.
type putter struct{ atoms map[string]*api.Atom }

// given is one who puts these atoms: of a name that comes twice the last one's.
func given(names []string, atoms []api.Atom) putter {
	p := putter{map[string]*api.Atom{}}
	for i := range min(len(names), len(atoms)) {
		p.atoms[names[i]] = &atoms[i]
	}
	return p
}

func (p putter) atom(a *api.Atom) {
	if put := p.atoms[a.Name]; put != nil && a.Kind == api.AtomVar {
		*a = *put
	}
	a.Num = ownInt(a.Num)
}

// term puts atoms' terms into t. Only those of names that stand in it are asked, so that many names cost little.
func (p putter) term(t *api.Term) {
	var names []string
	var terms []api.Term
	for _, name := range term.Free(*t) {
		if put := p.atoms[name]; put != nil {
			names, terms = append(names, name), append(terms, Atom(*put))
		}
	}
	made, e := term.Subst(*t, names, terms)
	need(e)
	*t = made
}

// need throws an error.
func need(e api.Errno) {
	if e != api.OK {
		panic(e)
	}
}

// stopped does it, and is the error that was thrown on the way; api.OK, if none was.
func stopped(do func()) (e api.Errno) {
	defer func() {
		if thrown := recover(); thrown != nil {
			e = thrown.(api.Errno)
		}
	}()
	do()
	return api.OK
}
