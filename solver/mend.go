package solver

import (
	"slices"

	"whetstone/api"
	"whetstone/linear"
	"whetstone/num"
	"whetstone/ratio"
	"whetstone/simplex"
	"whetstone/term"
)

// mend does something about an atom that comes to no whole number here: it moves the point, or lays what follows; or it
// tells what comes of looking on.
func (w *world) mend(at int) (told end, ends bool) {
	bounded := w.boundedWith(at)
	if w.round(at, bounded...) {
		return end{}, false
	}
	g, t := newGrid(w, bounded...)
	if t != nil {
		return end{tree: t}, true
	}
	if g.tighten() || g.spread() {
		return end{}, false
	}
	return w.halve(g.broken()), true
}

// boundedWith are the forms with bounds that hang together with an atom.
func (w *world) boundedWith(at int) []int {
	for _, form := range w.formsWith(at) {
		if w.isBound(form) {
			return w.together(form)
		}
	}
	return nil
}

// round moves the point to where the atoms of these forms, and this one, are rounded down, if that is within all bounds.
func (w *world) round(at int, bounded ...int) bool {
	atoms := []int{at}
	for _, form := range bounded {
		atoms = append(atoms, w.formAt[form].atoms...)
	}
	slices.Sort(atoms)
	atoms = slices.DeleteFunc(slices.Compact(atoms), func(at int) bool { return isWhole(w.point[at]) })
	from, to := make([]api.Ratio, len(atoms)), make([]api.Ratio, len(atoms))
	for i, at := range atoms {
		from[i], to[i] = w.point[at], ratio.Whole(ratio.Floor(w.point[at]))
	}
	w.move(atoms, to)
	for _, form := range bounded {
		if !w.meets(form) {
			w.move(atoms, from)
			return false
		}
	}
	return true
}

// tighten lays what follows of bounds where equalities hold, in whole numbers, and tells whether anything new did.
func (g *grid) tighten() bool {
	many := len(g.facts)
	for _, form := range g.bounded {
		if g.isFixed(form) {
			continue
		}
		if b, met := g.most[form]; met {
			g.tightenTo(form, b.number, num.Of(1))
		}
		if b, met := g.least[form]; met {
			g.tightenTo(form, b.number, num.Of(-1))
		}
	}
	return len(g.facts) > many
}

// tightenTo is of the form less the number, once or -1 times, which is at most 0.
func (g *grid) tightenTo(form int, number, sign api.Int) {
	r := g.restOf(form, number)
	divisor := r.divisor()
	most, left, e := num.DivMod(num.Neg(num.Mul(sign, r.number)), divisor)
	if e != api.OK || isNone(left) {
		return
	}
	atoms := parts{}
	for at, n := range r.parts {
		n, _, _ = num.DivMod(num.Mul(sign, n), divisor)
		atoms.add(n, g.columns[at].atoms)
	}
	c := g.atMost(atoms, most)
	if g.ofClaim(&c) == yes {
		return
	}
	times := ratio.Mul(ratio.Whole(sign), oneBy(divisor))
	g.derive(cutOf(g.next(), g.shares(r.from.taken(times))...), g.add(node{kind: claims, claim: c}))
}

// spread moves the point to where all columns are whole, if there is a place so far within all bounds that it does not
// matter how columns are rounded.
func (g *grid) spread() bool {
	if g.halved > 0 {
		return false
	}
	var rows []api.Linear
	parts := 0
	for _, form := range g.bounded {
		parts += len(g.formAt[form].atoms)
		if g.isFixed(form) {
			continue
		}
		if b, met := g.most[form]; met {
			rows = append(rows, g.within(form, b.number, num.Of(2)))
		}
		if b, met := g.least[form]; met {
			rows = append(rows, g.within(form, b.number, num.Of(-2)))
		}
	}
	g.spend(g.cost(parts))
	keys, point, denial, _ := simplex.Feasible(rows...)
	if len(denial) > 0 {
		return false
	}
	half := oneBy(num.Of(2))
	whole := map[int]api.Int{}
	for i, key := range keys {
		n := ratio.Floor(ratio.Add(point[i], half))
		whole[atomOf(key)] = n
	}
	g.moveTo(whole)
	return true
}

// within is the row of a form less a number, 2 or -2 times, that is to be at most 0 if columns are rounded.
func (g *grid) within(form int, number, times api.Int) api.Linear {
	r := g.restOf(form, number)
	l := api.Linear{Const: num.Mul(times, r.number)}
	for _, at := range r.rising() {
		l.Keys = append(l.Keys, shortKey(at))
		l.Coefs = append(l.Coefs, num.Mul(times, r.parts[at]))
		l.Const = num.Add(l.Const, positive(r.parts[at]))
	}
	return l
}

// moveTo moves the point to where columns come to this, and others to 0.
func (g *grid) moveTo(columns map[int]api.Int) {
	var atoms []int
	var to []api.Ratio
	for at, s := range g.sums {
		n := s.number
		for c, times := range s.parts {
			n = num.Add(n, num.Mul(times, columns[c]))
		}
		atoms, to = append(atoms, at), append(to, ratio.Whole(n))
	}
	g.move(atoms, to)
}

// broken is the form of a column that comes to no whole number here: there is one, as an atom does.
func (g *grid) broken() int {
	for _, c := range g.columns {
		if c.fixed {
			continue
		}
		form := g.atMost(c.atoms, api.Int{}).form
		if !isWhole(g.value(form)) {
			return form
		}
	}
	return none
}

// halve looks below and above what a form comes to here, which is no whole number.
func (w *world) halve(form int) end {
	if w.halved == w.deepest {
		return end{}
	}
	w.halved++
	down := ratio.Floor(w.value(form))
	c := claim{form: form, number: down, times: oneBy(num.Of(1))}
	low := w.add(node{kind: claims, claim: c})
	c.side, c.number = below, num.Add(down, num.Of(1))
	high := w.add(node{kind: claims, claim: c})
	step := api.Proof{Kind: api.ProofLess, Terms: []api.Term{w.termOf(form)}, Num: down}
	return w.each(&tree{step: step, first: w.next(), many: 1}, low, high)
}

// termOf is a form as a term.
func (s *search) termOf(form int) api.Term {
	f := s.formAt[form]
	first := s.atomAt[f.atoms[0]].Term
	if len(f.atoms) == 1 {
		return first
	}
	keys := make([]string, len(f.atoms))
	for i, at := range f.atoms {
		keys[i] = term.Key(s.atomAt[at].Term)
	}
	told, _ := linear.Term(keys, f.times)
	return told
}
