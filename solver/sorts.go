package solver

import (
	"whetstone/api"
	"whetstone/term"
)

// sorts are those that terms have in a scope.
type sorts struct {
	datas []api.Data
	scope []api.Sorted
	last  map[string]int // the place of the last one of a name
}

func newSorts(datas []api.Data, scope []api.Sorted) sorts {
	s := sorts{datas, scope, map[string]int{}}
	for i, name := range scope {
		s.last[name.Name] = i
	}
	return s
}

// of is the sort of a term that has one: that is known by the part on top of it.
func (s sorts) of(t api.Term) string {
	switch t.Kind {
	case api.TermVar:
		return s.scope[s.last[t.Name]].Sort
	case api.TermApp:
		_, to, _ := term.Function(s.datas, t.Name)
		return to
	case api.TermNum, api.TermAdd, api.TermScale:
		return api.SortInt
	}
	return api.SortBool
}

// isTruth tells the error of what is no truth.
func isTruth(datas []api.Data, scope []api.Sorted, t api.Term) api.Errno {
	sort, e := term.Sort(datas, scope, t)
	if e == api.OK && sort != api.SortBool {
		return api.ErrSort
	}
	return e
}
