package nat

import (
	"math/bits"
	"slices"

	"whetstone/api"
)

// divide needs d above 0.
func (a number) divide(d number) (quotient, rest number) {
	if a.compare(d.digits) < 0 {
		return number{}, a
	}
	if len(d.digits) == 1 {
		return a.divideShort(d.at(0))
	}
	return a.divideLong(d)
}

// divideShort divides by one digit.
func (a number) divideShort(d uint64) (quotient, rest number) {
	q := make(digits, len(a.digits))
	var left uint64
	for i := len(q) - 1; i >= 0; i-- {
		left = left*api.Base + a.at(i)
		q[i] = uint32(left / d)
		left %= d
	}
	return number{q.stripped()}, number{digits{uint32(left)}.stripped()}
}

// divideLong divides by two digits or more, as it is done by hand. The 0 ahead makes the first part below d times
// api.Base, as each later one is, because less than d is left of the one before it.
func (a number) divideLong(d number) (quotient, rest number) {
	left := append(slices.Clone(a.digits), 0)
	q := make(digits, len(left)-len(d.digits))
	for i := len(q) - 1; i >= 0; i-- {
		part := left[i : i+len(d.digits)+1]
		digit := guess(part, d.digits)
		if part.take(d.digits, digit) {
			digit--
			part.giveBack(d.digits)
		}
		q[i] = uint32(digit)
	}
	return number{q.stripped()}, number{left.stripped()}
}

// guess is how often d goes into part, or 1 more: the two highest digits of d are held against the three highest of
// part. That is less than 1 too great before it is rounded down: the two are at least api.Base, so what d has behind
// them changes a quotient below api.Base by less than 1.
func guess(part, d digits) uint64 {
	n := len(d)
	high, low := bits.Mul64(part.at(n)*api.Base+part.at(n-1), api.Base)
	low, carry := bits.Add64(low, part.at(n-2), 0)
	digit, _ := bits.Div64(high+carry, low, d.at(n-1)*api.Base+d.at(n-2))
	return digit
}

// take lessens part by d times digit. It tells true where that is below 0: then part is too great by api.Base to the
// power of its length.
func (part digits) take(d digits, digit uint64) bool {
	var carry, borrow uint64
	for i := range part {
		carry += d.at(i) * digit
		x := part.at(i) + api.Base - carry%api.Base - borrow
		part[i] = uint32(x % api.Base)
		borrow = 1 - x/api.Base
		carry /= api.Base
	}
	return borrow > 0
}

// giveBack puts d to part. The carry out of the highest digit is left out: it is what part was too great by.
func (part digits) giveBack(d digits) {
	var carry uint64
	for i := range part {
		carry += part.at(i) + d.at(i)
		part[i] = uint32(carry % api.Base)
		carry /= api.Base
	}
}
