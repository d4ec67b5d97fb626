package cong

import (
	"whetstone/api"
	"whetstone/term"
)

// sorts are those that terms have in a scope.
type sorts struct {
	datas []api.Data
	scope []api.Sorted
}

func (s sorts) of(t api.Term) (string, api.Errno) {
	return term.Sort(s.datas, s.scope, t)
}

// needData throws api.ErrProof, unless both are of one data's sort.
func (s sorts) needData(a, b api.Term) {
	sort, e := s.of(a)
	need(e == api.OK && sort != api.SortInt && sort != api.SortBool, api.ErrProof)
	other, e := s.of(b)
	need(e == api.OK && other == sort, api.ErrProof)
}

// result is the sort of what the function of that name tells of data; where it takes them not, or tells what is of no
// sort, api.ErrSort is thrown.
func (s sorts) result(name string, data api.Term) string {
	sort, e := s.of(apply(name, data))
	need(e == api.OK, api.ErrSort)
	return sort
}
