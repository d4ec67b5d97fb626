package solver

import (
	"slices"

	"whetstone/api"
	"whetstone/num"
	"whetstone/ratio"
	"whetstone/simplex"
)

// world is a state, and what atoms may come to there: truths that are not told are not so, atoms of data are the same
// where their classes are, and numbers are what the point says.
type world struct {
	*state
	point  []api.Ratio       // by atoms
	values map[int]api.Ratio // of forms at the point, as far as they were asked for
}

func newWorld(s *state) *world {
	w := &world{state: s, point: make([]api.Ratio, len(s.atomAt)), values: map[int]api.Ratio{}}
	for at := range w.point {
		w.point[at] = ratio.Whole(api.Int{})
	}
	return w
}

// value is what a form comes to at the point.
func (w *world) value(form int) api.Ratio {
	told, met := w.values[form]
	if met {
		return told
	}
	f := w.formAt[form]
	var parts []api.Ratio
	for i, at := range f.atoms {
		switch n := w.point[at]; {
		case isNone(n.Num):
		case isOne(f.times[i]):
			parts = append(parts, n)
		default:
			parts = append(parts, ratio.Mul(ratio.Whole(f.times[i]), n))
		}
	}
	told = ratio.Add(parts...)
	w.values[form] = told
	w.spend(8 * len(f.atoms))
	return told
}

// compare tells whether a form comes to less than a number, to that, or to more.
func (w *world) compare(form int, n api.Int) int {
	value := w.value(form)
	if isWhole(value) {
		return num.Cmp(value.Num, n)
	}
	return ratio.Cmp(value, ratio.Whole(n))
}

// move changes the point.
func (w *world) move(atoms []int, to []api.Ratio) {
	for i, at := range atoms {
		w.point[at] = to[i]
		for _, form := range w.formsWith(at) {
			delete(w.values, form)
		}
	}
}

// meets tells whether the point is within the bounds of a form.
func (w *world) meets(form int) bool {
	if b, met := w.most[form]; met && w.compare(form, b.number) > 0 {
		return false
	}
	b, met := w.least[form]
	return !met || w.compare(form, b.number) >= 0
}

// isBound tells whether a form has a bound.
func (w *world) isBound(form int) bool {
	_, most := w.most[form]
	_, least := w.least[form]
	return most || least
}

// place moves the point to where it is within all bounds. It tells a certificate, if there is no such place.
func (w *world) place() *tree {
	for len(w.moved) > 0 && w.left >= 0 {
		last := len(w.moved) - 1
		form := w.moved[last]
		w.moved = w.moved[:last]
		if !w.meets(form) {
			if t := w.solve(w.together(form)...); t != nil {
				return t
			}
		}
	}
	return nil
}

// together are the forms with bounds that hang together with one, by atoms which they share, these and others.
func (w *world) together(form int) []int {
	met := map[int]struct{}{form: {}}
	told := []int{form}
	seen := map[int]struct{}{}
	for i := 0; i < len(told); i++ {
		for _, at := range w.formAt[told[i]].atoms {
			if _, done := seen[at]; done {
				continue
			}
			seen[at] = struct{}{}
			for _, other := range w.formsWith(at) {
				if _, known := met[other]; !known && w.isBound(other) {
					met[other] = struct{}{}
					told = append(told, other)
				}
			}
		}
	}
	slices.Sort(told)
	return told
}

// solve moves the point to where it is within the bounds of these forms, or tells a certificate.
func (w *world) solve(forms ...int) *tree {
	var rows []api.Linear
	var shares []share
	parts := 0
	for _, form := range forms {
		parts += len(w.formAt[form].atoms)
		if b, met := w.most[form]; met {
			rows, shares = append(rows, w.row(form, num.Neg(b.number), num.Of(1))), append(shares, share{b.fact, b.times})
		}
		if b, met := w.least[form]; met {
			rows, shares = append(rows, w.row(form, b.number, num.Of(-1))), append(shares, share{b.fact, b.times})
		}
	}
	w.spend(w.cost(parts))
	keys, point, denial, _ := simplex.Feasible(rows...)
	if len(denial) == 0 {
		atoms := make([]int, len(keys))
		for i, key := range keys {
			atoms[i] = atomOf(key)
		}
		w.move(atoms, point)
		return nil
	}
	var asked []share
	for i, one := range shares {
		if len(denial[i].Num.Digits) > 0 {
			asked = append(asked, share{one.fact, ratio.Mul(one.times, denial[i])})
		}
	}
	return farkas(asked...)
}

// row is a form, once or -1 times, and a number, by short keys.
func (w *world) row(form int, number, times api.Int) api.Linear {
	f := w.formAt[form]
	l := api.Linear{Const: number}
	for i, at := range f.atoms {
		l.Keys = append(l.Keys, shortKey(at))
		l.Coefs = append(l.Coefs, num.Mul(f.times[i], times))
	}
	return l
}

// shortKey is a text for an atom: those of later atoms stand behind it.
func shortKey(at int) string {
	return string([]byte{byte(at >> 24), byte(at >> 16), byte(at >> 8), byte(at)})
}

func atomOf(key string) int {
	return int(key[0])<<24 | int(key[1])<<16 | int(key[2])<<8 | int(key[3])
}

// cost is about how much it takes to ask whether so many parts of rows can be. Of what the chapter promises to find, at
// most a thousand cases must be asked, each of fewer parts than obligations have there.
func (w *world) cost(parts int) int {
	told := 8*unit + 16*parts*(1+parts*parts/90000)
	if w.halved > 0 {
		// Here nothing is promised, and it may go on for long.
		return 16 * told
	}
	return told
}
