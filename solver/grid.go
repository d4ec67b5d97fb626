package solver

import (
	"whetstone/api"
	"whetstone/num"
	"whetstone/ratio"
)

// sum is parts, and a number.
type sum struct {
	parts
	number api.Int
}

// column is a sum of atoms, in whole numbers. Where it is fixed, it is that sum, less a number which equalities say that it
// is: so it comes to 0, and is what forms, each less the number that it is said to be, come to, so many times.
type column struct {
	atoms parts
	fixed bool
	from  mix
}

// grid is where atoms may be that hang together, so that they are whole, and what is said to be just a number is that:
// each is a sum of columns, in whole numbers, and columns are whole where atoms are. Columns that are not fixed may come
// to any whole number.
type grid struct {
	*world
	bounded []int // the forms
	sums    map[int]sum
	columns []column
}

// newGrid has all equalities in it that bounded forms are held to. It tells a certificate, if no whole numbers meet them.
func newGrid(w *world, bounded ...int) (*grid, *tree) {
	g := &grid{world: w, bounded: bounded, sums: map[int]sum{}}
	one := num.Of(1)
	for _, form := range bounded {
		for _, at := range w.formAt[form].atoms {
			if _, met := g.sums[at]; !met {
				g.sums[at] = sum{parts: parts{len(g.columns): one}}
				g.columns = append(g.columns, column{atoms: parts{at: one}})
			}
		}
	}
	for _, form := range bounded {
		if w.isFixed(form) {
			if t := g.fix(form); t != nil {
				return nil, t
			}
		}
	}
	return g, nil
}

// isFixed tells whether a form is held to just a number.
func (w *world) isFixed(form int) bool {
	b, met := w.most[form]
	just := claim{form: form, number: b.number}
	return met && just.against(w.least, -1) == 0
}

// rest is what is left of a form, less a number, of columns that are not fixed: it is what forms, each less the number
// that it is said to be, come to, so many times.
type rest struct {
	sum
	from mix
}

func (g *grid) restOf(form int, number api.Int) rest {
	f := g.formAt[form]
	all := parts{}
	r := rest{sum{parts{}, num.Neg(number)}, mix{form: oneBy(num.Of(1))}}
	for i, at := range f.atoms {
		all.add(f.times[i], g.sums[at].parts)
		r.number = num.Add(r.number, num.Mul(f.times[i], g.sums[at].number))
	}
	g.spend(16 * (len(f.atoms) + len(all)))
	for at, times := range all {
		if !g.columns[at].fixed {
			r.parts[at] = times
			continue
		}
		r.from.add(ratio.Whole(num.Neg(times)), g.columns[at].from)
	}
	return r
}

// fix holds the columns to what a form is held to.
func (g *grid) fix(form int) *tree {
	r := g.restOf(form, g.most[form].number)
	if len(r.parts) == 0 {
		return nil
	}
	divisor := r.divisor()
	if _, left, _ := num.DivMod(r.number, divisor); !isNone(left) {
		return g.impossible(r.from.taken(oneBy(divisor)))
	}
	at := g.single(r.parts)
	times := r.parts[at]
	number, _, _ := num.DivMod(num.Neg(r.number), times)
	for atom, s := range g.sums {
		if n, met := s.parts[at]; met {
			s.number = num.Add(s.number, num.Mul(n, number))
			g.sums[atom] = s
		}
	}
	g.columns[at].fixed, g.columns[at].from = true, r.from.taken(oneBy(times))
	return nil
}

// single changes columns, so that of these parts one alone is left, and tells which.
func (g *grid) single(p parts) int {
	for {
		at := p.rarest()
		if len(p) == 1 {
			return at
		}
		others := parts{}
		for other, n := range p {
			if other != at {
				others[other], p[other], _ = num.DivMod(n, p[at])
			}
		}
		p.strip()
		others.strip()
		g.turn(at, others)
	}
}

// turn makes of a column itself and others.
func (g *grid) turn(at int, others parts) {
	for _, s := range g.sums {
		if n, met := s.parts[at]; met {
			s.parts.add(num.Neg(n), others)
			g.spend(16 * len(others))
		}
	}
	for other, n := range others {
		g.columns[at].atoms.add(n, g.columns[other].atoms)
		g.spend(16)
	}
}

// shares are those of facts: a form that is taken less than 0 times is held to its number from below.
func (g *grid) shares(from mix) []share {
	var told []share
	for _, form := range from.rising() {
		switch times := from[form]; {
		case times.Num.Neg:
			b := g.least[form]
			told = append(told, share{b.fact, ratio.Mul(ratio.Neg(times), b.times)})
		case len(times.Num.Digits) > 0:
			b := g.most[form]
			told = append(told, share{b.fact, ratio.Mul(times, b.times)})
		}
	}
	return told
}

// impossible is of forms that come, so many times, to a sum of atoms in whole numbers and a number that is not whole: it is
// rounded from both sides.
func (g *grid) impossible(from mix) *tree {
	next := g.next()
	t := farkas(once(next), once(next+1))
	t = cutOf(next+1, g.shares(from.taken(oneBy(num.Of(-1))))...).filled(t)
	return cutOf(next, g.shares(from)...).filled(t)
}
