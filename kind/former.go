package kind

import (
	"whetstone/api"
	"whetstone/term"
)

// former holds types to what well formed ones are.
type former struct {
	datas  []api.Data
	kappas []api.Kappa
	outside
}

// look is what is wrong with a type, its parts apart.
func (f *former) look(w work[string]) api.Errno {
	switch {
	case !w.base() && !w.functions():
		return api.ErrType
	case len(w.Params) > api.MaxParams:
		return api.ErrMany
	case w.twice():
		return api.ErrTwice
	case w.Fun:
		return api.OK
	case !w.right(f.datas):
		return api.ErrSort
	}
	return f.refine(w)
}

// refine is what is wrong with the refinement of a base type. Of the scope only the names that stand in it are asked, so
// that of many types each is not held against all names.
func (f *former) refine(w work[string]) api.Errno {
	formula, e := term.Expand(f.kappas, w.Refine)
	if e != api.OK {
		return e
	}
	var scope []api.Sorted
	for _, name := range term.Free(formula) {
		sort, known := w.of(name)
		if !known {
			sort, known = f.sort(name)
		}
		if known {
			scope = append(scope, api.Sorted{Name: name, Sort: sort})
		}
	}
	sort, e := term.Sort(f.datas, append(scope, api.Sorted{Name: value, Sort: w.Sort}), formula)
	if e == api.OK && sort != api.SortBool {
		return api.ErrSort
	}
	return e
}

// bind lets base parameters come into the scope: functions are known apart.
func (f *former) bind(p *api.Param) []named[string] {
	if p.Type.Fun {
		return nil
	}
	return []named[string]{{p.Name, p.Type.Sort}}
}
