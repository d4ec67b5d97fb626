package solver

import (
	"slices"

	"whetstone/api"
	"whetstone/term"
)

// none is the number of what is not there.
const none = -1

// atom is a TermVar, a TermApp.
type atom struct {
	api.Term
	sort string
	of   int // the atom that a TermApp is of
	deep int // how many parts it has
}

// shape is what an atom is known by. Its Key would have the Keys of all atoms within, and those of deep ones would
// together be far longer than these.
type shape struct {
	name, num string
	of        int
}

// atoms are known by their places, from 0 on.
type atoms struct {
	sorts
	atomAt []atom
	shapes map[shape]int
	keys   map[string]int // of numbers, by their Keys
}

func newAtoms(datas []api.Data, scope []api.Sorted) atoms {
	return atoms{sorts: newSorts(datas, scope), shapes: map[shape]int{}, keys: map[string]int{}}
}

// meet meets all atoms of terms that have sorts.
func (a *atoms) meet(terms ...api.Term) {
	ahead := [][]api.Term{terms}
	for len(ahead) > 0 {
		last := len(ahead) - 1
		row := ahead[last]
		ahead = ahead[:last]
		for _, t := range row {
			if isAtom(t) {
				a.place(t)
			} else if len(t.Kids) > 0 {
				ahead = append(ahead, t.Kids)
			}
		}
	}
}

// place is that of an atom, which is laid behind the others, with those within, where it was not met.
func (a *atoms) place(t api.Term) int {
	var around []api.Term
	for ; t.Kind == api.TermApp; t = t.Kids[0] {
		around = append(around, t)
	}
	at := a.placeOf(t, none)
	for _, app := range slices.Backward(around) {
		at = a.placeOf(app, at)
	}
	return at
}

func (a *atoms) placeOf(t api.Term, of int) int {
	key := shape{t.Name, numberKey(t.Num), of}
	if at, met := a.shapes[key]; met {
		return at
	}
	at := len(a.atomAt)
	a.shapes[key] = at
	deep := 1
	if of != none {
		deep += a.atomAt[of].deep
	}
	a.atomAt = append(a.atomAt, atom{t, a.sorts.of(t), of, deep})
	if a.isNumber(at) {
		a.keys[term.Key(t)] = at
	}
	return at
}

// numberKey is none of 0, which almost all atoms have.
func numberKey(n api.Int) string {
	if !n.Neg && len(n.Digits) == 0 {
		return ""
	}
	return term.Key(api.Term{Num: n})
}

func (a *atoms) isNumber(at int) bool {
	return a.atomAt[at].sort == api.SortInt
}

func (a *atoms) isTruth(at int) bool {
	return a.atomAt[at].sort == api.SortBool
}
