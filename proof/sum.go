package proof

import (
	"whetstone/api"
	"whetstone/linear"
	"whetstone/num"
	"whetstone/ratio"
)

// sum is what facts, each so many times, come to: atoms by their keys, each so many times, and a number. All together
// are at most 0.
type sum struct {
	keys   []string
	parts  []api.Ratio
	number api.Ratio
}

// canBeCut tells whether there are atoms, and all of them come whole times.
func (s sum) canBeCut() bool {
	for _, part := range s.parts {
		if num.Cmp(part.Den, num.Of(1)) != 0 {
			return false
		}
	}
	return len(s.parts) > 0
}

// cut is the sum as a fact, divided by the greatest number by which all its atoms can be, and rounded down; needs
// canBeCut.
func (s sum) cut() (api.Term, bool) {
	times := make([]api.Int, len(s.parts))
	for i, part := range s.parts {
		times[i] = part.Num
	}
	divisor := num.Gcd(times...)
	for i := range times {
		times[i], _, _ = num.DivMod(times[i], divisor)
	}
	atoms, ok := linear.Term(s.keys, times)
	bound, e := ratio.Div(ratio.Neg(s.number), ratio.Whole(divisor))
	return atMost(atoms, number(ratio.Floor(bound))), ok && e == api.OK
}

// canNotBe tells whether a number above 0 would have to be at most 0.
func (s sum) canNotBe() bool {
	return len(s.parts) == 0 && ratio.Cmp(s.number, ratio.Add()) > 0
}
