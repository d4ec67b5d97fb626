package tree

import (
	"maps"
	"slices"

	"whetstone/api"
	"whetstone/term"
)

// finder finds the names that are free.
type finder struct {
	walker
	met map[string]int // how many times each was
}

func (f *finder) atom(a *api.Atom) {
	if a.Kind == api.AtomVar {
		f.meet(a.Name)
	}
}

func (f *finder) term(t *api.Term) {
	for _, name := range term.Free(*t) {
		if name != value {
			f.meet(name)
		}
	}
}

func (f *finder) meet(name string) {
	if f.free(name) {
		f.met[name]++
	}
}

// names are those that were met, rising.
func (f *finder) names() []string {
	return slices.Sorted(maps.Keys(f.met))
}
