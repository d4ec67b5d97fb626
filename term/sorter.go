package term

import (
	"slices"

	"whetstone/api"
	"whetstone/num"
)

// tag is the name of the function that tells a data's constructor.
const tag = "tag"

// anyMany is the number of kids of kinds that may have any.
const anyMany = -1

// sorter finds the sorts of terms. It only ever tells int, bool and data's sorts.
type sorter struct {
	gatherer[string]
	datas []api.Data
	scope []api.Sorted
}

func (s *sorter) of(t *api.Term) string {
	return s.gather(t, enter, s.leave)
}

// need throws api.ErrSort, unless ok.
func need(ok bool) {
	if !ok {
		panic(api.ErrSort)
	}
}

// kidsOf is how many kids a part of that kind has; known is false of kinds that have no sort.
func kidsOf(kind api.TermKind) (n int, known bool) {
	switch kind {
	case api.TermVar, api.TermNum, api.TermTrue, api.TermFalse:
		return 0, true
	case api.TermScale, api.TermApp, api.TermNot:
		return 1, true
	case api.TermEq, api.TermLe, api.TermIff:
		return 2, true
	case api.TermAdd, api.TermAnd, api.TermOr:
		return anyMany, true
	}
	return 0, false
}

// enter asks what is asked of a part ahead of its kids.
func enter(part *api.Term) {
	n, known := kidsOf(part.Kind)
	need(known)
	if n != anyMany && n != len(part.Kids) {
		panic(api.ErrMany)
	}
	if part.Kind == api.TermNum || part.Kind == api.TermScale {
		need(num.Right(part.Num))
	}
}

// leave is the sort of a part that enter let pass.
func (s *sorter) leave(part *api.Term, kids ...string) string {
	switch part.Kind {
	case api.TermVar:
		return s.variable(part.Name)
	case api.TermNum, api.TermAdd, api.TermScale:
		return made(api.SortInt, api.SortInt, kids...)
	case api.TermLe:
		return made(api.SortBool, api.SortInt, kids...)
	case api.TermEq:
		need(kids[0] != api.SortBool)
		return made(api.SortBool, kids[0], kids...)
	case api.TermApp:
		return s.applied(part.Name, kids[0])
	}
	return made(api.SortBool, api.SortBool, kids...)
}

// made is the sort to, all kids being of the sort from.
func made(to, from string, kids ...string) string {
	for _, kid := range kids {
		need(kid == from)
	}
	return to
}

func (s *sorter) variable(name string) string {
	for _, sorted := range slices.Backward(s.scope) {
		if sorted.Name == name {
			need(s.isSort(sorted.Sort))
			return sorted.Sort
		}
	}
	panic(api.ErrName)
}

// applied is the sort that a function tells of a kid. A data may have an empty name: so tag is known by its own.
func (s *sorter) applied(name, kid string) string {
	from, to, ok := Function(s.datas, name)
	need(ok && s.isData(kid) && s.isSort(to))
	need(name == tag || kid == from)
	return to
}

func (s *sorter) isSort(name string) bool {
	return name == api.SortInt || name == api.SortBool || s.isData(name)
}

func (s *sorter) isData(name string) bool {
	if name == api.SortInt || name == api.SortBool {
		return false
	}
	return slices.ContainsFunc(s.datas, func(d api.Data) bool { return d.Name == name })
}

// cutField cuts the name of a field's function: into that of the constructor and the field's place.
func cutField(name string) (con string, place int, ok bool) {
	point := len(name) - 2
	if point < 0 || name[point] != '.' || name[point+1] < '0' || name[point+1] > '9' {
		return "", 0, false
	}
	return name[:point], int(name[point+1] - '0'), true
}

// constructor is the data of the constructor of that name, and its fields.
func constructor(datas []api.Data, name string) (data string, fields []string, ok bool) {
	for _, d := range datas {
		for _, c := range d.Cons {
			if c.Name == name {
				return d.Name, c.Fields, true
			}
		}
	}
	return "", nil, false
}
