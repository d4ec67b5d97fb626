package solver

import (
	"strconv"

	"whetstone/api"
	"whetstone/linear"
	"whetstone/num"
	"whetstone/ratio"
)

// form is a sum of numbers' atoms, these rising, without a number. Nothing divides all of it, and the first atom comes
// more than 0 times: so of all sums that are, but for a number, so many times another one there is one form.
type form struct {
	atoms []int
	times []api.Int
}

// side is the one to which a claim holds a form.
type side int

const (
	above side = iota // the form is at most the number
	below             // at least
	both              // just that
)

// claim is what a fact that is a sum says of a form: to which side, and to which number.
type claim struct {
	form   int // none: of no atoms
	side   side
	number api.Int
	times  api.Ratio // the fact, so many times, is: above, both: the form less the number; below: the number less the form
	cut    bool      // the fact says so only divided and rounded
	broken bool      // of both: the number would be no whole one
}

// forms are known by their places, from 0 on.
type forms struct {
	formAt []form
	places map[string]int
	within [][]int // the forms that an atom is in, by the atom's place
}

func newForms() forms {
	return forms{places: map[string]int{}}
}

// formOf is the form of atoms, rising, so many times.
func (f *forms) formOf(atoms []int, times []api.Int) int {
	var text []byte
	for i, at := range atoms {
		text = strconv.AppendInt(text, int64(at), 10)
		text = append(text, ' ')
		text = append(text, num.Text(times[i])...)
		text = append(text, ' ')
	}
	if at, met := f.places[string(text)]; met {
		return at
	}
	at := len(f.formAt)
	f.places[string(text)] = at
	f.formAt = append(f.formAt, form{atoms, times})
	for _, a := range atoms {
		for len(f.within) <= a {
			f.within = append(f.within, nil)
		}
		f.within[a] = append(f.within[a], at)
	}
	return at
}

// claimOf is what is said by TermLe, or TermEq, of the numbers a and b.
func (s *search) claimOf(kind api.TermKind, a, b api.Term) claim {
	sum, _ := linear.Of(less(a, b))
	if len(sum.Keys) == 0 {
		return constant(kind, sum.Const)
	}
	divisor := num.Gcd(sum.Coefs...)
	atoms := parts{}
	for i, key := range sum.Keys {
		atoms[s.keys[key]], _, _ = num.DivMod(sum.Coefs[i], divisor)
	}
	number, rest, _ := num.DivMod(num.Neg(sum.Const), divisor)
	c := s.atMost(atoms, number)
	c.times = oneBy(divisor)
	if kind == api.TermLe {
		c.cut = !isNone(rest)
		return c
	}
	if c.side == below {
		c.times = ratio.Neg(c.times)
	}
	c.side, c.broken = both, !isNone(rest)
	return c
}

// atMost is the claim that a sum of atoms, which nothing divides, is at most a number, as a fact says that is just this.
func (f *forms) atMost(sum parts, number api.Int) claim {
	atoms := sum.rising()
	times := make([]api.Int, len(atoms))
	turned := sum[atoms[0]].Neg
	for i, at := range atoms {
		times[i] = sum[at]
		if turned {
			times[i] = num.Neg(times[i])
		}
	}
	c := claim{form: f.formOf(atoms, times), number: number, times: oneBy(num.Of(1))}
	if turned {
		c.side, c.number = below, num.Neg(number)
	}
	return c
}

// constant is what is said of a number alone: broken, where it is not so. That is seen by the fact, once or -1 times.
func constant(kind api.TermKind, n api.Int) claim {
	c := claim{form: none, broken: !n.Neg && len(n.Digits) > 0, times: oneBy(num.Of(1))}
	if kind == api.TermEq && n.Neg {
		c.broken, c.times = true, oneBy(num.Of(-1))
	}
	return c
}

// less is a less b.
func less(a, b api.Term) api.Term {
	minus := api.Term{Kind: api.TermScale, Num: num.Of(-1), Kids: []api.Term{b}}
	return api.Term{Kind: api.TermAdd, Kids: []api.Term{a, minus}}
}

// formsWith are the forms that an atom is in.
func (f *forms) formsWith(at int) []int {
	if at < len(f.within) {
		return f.within[at]
	}
	return nil
}
