package simplex

import (
	"cmp"
	"slices"

	"whetstone/api"
	"whetstone/num"
)

// part is a column, and how many times it comes, which is not 0.
type part struct {
	column int
	times  api.Int
}

// once is a column that comes once.
func once(column int) part {
	return part{column, num.Of(1)}
}

// equation says that parts, their columns rising, and a number are 0 together. It is solved for one of the columns, which
// comes more than 0 times. No equation changes any more when it was made.
type equation struct {
	parts  []part
	number api.Int
	solved int
}

// times is how many times a column comes.
func (e *equation) times(column int) api.Int {
	at, met := slices.BinarySearchFunc(e.parts, column, func(p part, column int) int {
		return cmp.Compare(p.column, column)
	})
	if !met {
		return api.Int{}
	}
	return e.parts[at].times
}

// solvedFor is e, solved for a column that comes in it.
func (e *equation) solvedFor(column int) *equation {
	sign := num.Of(1)
	if e.times(column).Neg {
		sign = num.Of(-1)
	}
	told := e.plus(&equation{}, sign, api.Int{})
	told.solved = column
	return told
}

// without is e, with what f says put for the column that f is solved for. That of e must not come in f.
func (e *equation) without(f *equation) *equation {
	gone := e.times(f.solved)
	if isNone(gone) {
		return e
	}
	return e.plus(f, f.times(f.solved), num.Neg(gone)).lowest()
}

// plus is e, so many times, and f, so many times, solved for what e is.
func (e *equation) plus(f *equation, timesE, timesF api.Int) *equation {
	told := &equation{solved: e.solved, parts: make([]part, 0, len(e.parts)+len(f.parts))}
	told.number = num.Add(product(e.number, timesE), product(f.number, timesF))
	a, b := e.parts, f.parts
	for len(a) > 0 && len(b) > 0 {
		switch c := cmp.Compare(a[0].column, b[0].column); {
		case c < 0:
			told.lay(timesE, a[0])
			a = a[1:]
		case c > 0:
			told.lay(timesF, b[0])
			b = b[1:]
		default:
			both := num.Add(product(a[0].times, timesE), product(b[0].times, timesF))
			told.lay(both, once(a[0].column))
			a, b = a[1:], b[1:]
		}
	}
	told.lay(timesE, a...)
	told.lay(timesF, b...)
	return told
}

// lay lays parts, so many times, behind those of an equation that is being made.
func (e *equation) lay(times api.Int, parts ...part) {
	if isNone(times) {
		return
	}
	for _, p := range parts {
		e.parts = append(e.parts, part{p.column, product(times, p.times)})
	}
}

// lowest is e, divided by what divides all of it, lest its numbers grow with each turn.
func (e *equation) lowest() *equation {
	divisor := num.Gcd(e.number)
	for _, p := range e.parts {
		divisor = num.Gcd(divisor, p.times)
		if isOne(divisor) {
			return e
		}
	}
	told := &equation{solved: e.solved}
	told.number, _, _ = num.DivMod(e.number, divisor)
	for _, p := range e.parts {
		p.times, _, _ = num.DivMod(p.times, divisor)
		told.parts = append(told.parts, p)
	}
	return told
}

// product is shorter where one of both is 1, as it mostly is.
func product(a, b api.Int) api.Int {
	switch {
	case isOne(a):
		return b
	case isOne(b):
		return a
	}
	return num.Mul(a, b)
}

func isNone(n api.Int) bool {
	return len(n.Digits) == 0
}

func isOne(n api.Int) bool {
	return !n.Neg && len(n.Digits) == 1 && n.Digits[0] == 1
}
