// Package nat is layer 1: numbers from 0 on, as rows of digits to the base api.Base, the lowest first. See shared/doc/01-nat.md.
package nat

import "whetstone/api"

// Right tells whether each digit is below api.Base, and the last one is not 0.
func Right(a []uint32) bool {
	for _, d := range a {
		if d >= api.Base {
			return false
		}
	}
	return len(a) == 0 || a[len(a)-1] != 0
}

// Trim is the right row of what a stands for.
func Trim(a []uint32) []uint32 {
	return of(a).digits
}

// Cmp is -1, 0, 1: what a stands for is below, the same, above.
func Cmp(a, b []uint32) int {
	return of(a).compare(of(b).digits)
}

// Add is the sum of all; of none 0.
func Add(l ...[]uint32) []uint32 {
	return fold(number{}, number.plus, l...).digits
}

// Sub is a less b, and true; none and false, if b is above a.
func Sub(a, b []uint32) ([]uint32, bool) {
	from, less := of(a), of(b)
	if from.compare(less.digits) < 0 {
		return nil, false
	}
	return from.minus(less).digits, true
}

// Mul is the product of all; of none 1.
func Mul(l ...[]uint32) []uint32 {
	return fold(number{digits{1}}, number.times, l...).digits
}

// DivMod is the quotient, rounded down, the rest, and true; none, none and false, if b is 0.
func DivMod(a, b []uint32) (q, r []uint32, ok bool) {
	divisor := of(b)
	if divisor.none() {
		return nil, nil, false
	}
	quotient, rest := of(a).divide(divisor)
	return quotient.digits, rest.digits, true
}

// Text is what a stands for, in decimal.
func Text(a []uint32) string {
	return of(a).decimal()
}

// Of is the row of a decimal text, and true; none and false of all others.
func Of(s string) ([]uint32, bool) {
	if !isDecimal(s) {
		return nil, false
	}
	return read(s), true
}
