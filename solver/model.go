package solver

import (
	"cmp"
	"slices"

	"whetstone/api"
	"whetstone/term"
)

// model is what atoms come to here: of numbers that are not 0, of truths that are so, and of data that is of one class
// with other. All else comes to that without being there.
func (w *world) model() end {
	var told []api.Atomic
	for at, a := range w.atomAt {
		one := api.Atomic{Sort: a.sort}
		switch a.sort {
		case api.SortInt:
			one.Num = copiedInt(w.point[at].Num)
		case api.SortBool:
			one.Truth = w.ofTruth(at) == yes
		default:
			one.Class = w.classOf(at)
		}
		if len(one.Num.Digits) == 0 && !one.Truth && one.Class == 0 {
			continue
		}
		if !w.spend(dear(a.deep)) {
			return end{out: true}
		}
		one.Key = term.Key(a.Term)
		told = append(told, one)
	}
	slices.SortFunc(told, func(a, b api.Atomic) int { return cmp.Compare(a.Key, b.Key) })
	return end{met: true, model: told}
}

// classOf is a number for the class of an atom that is not the only one there, from 1 on; else 0.
func (w *world) classOf(at int) int {
	root := w.root(at)
	if w.sizes[root] == 1 {
		return 0
	}
	return root + 1
}
