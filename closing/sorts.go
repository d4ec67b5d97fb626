package closing

import (
	"whetstone/api"
	"whetstone/term"
)

// sorts are those that terms have in a scope.
type sorts struct {
	datas []api.Data
	scope []api.Sorted
}

// truths tells the first error of a fact that is no truth.
func (s sorts) truths(facts ...api.Term) api.Errno {
	for _, fact := range facts {
		sort, e := term.Sort(s.datas, s.scope, fact)
		if e != api.OK {
			return e
		}
		if sort != api.SortBool {
			return api.ErrSort
		}
	}
	return api.OK
}

// tellsTruths is whether the function of that name is one to bool.
func (s sorts) tellsTruths(name string) bool {
	_, to, _ := term.Function(s.datas, name)
	return to == api.SortBool
}
