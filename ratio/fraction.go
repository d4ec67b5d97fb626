package ratio

import (
	"whetstone/api"
	"whetstone/num"
)

// fraction is a ratio that is reckoned with. It is always right, in memory of its own.
type fraction struct{ api.Ratio }

// isNone needs n right.
func isNone(n api.Int) bool {
	return len(n.Digits) == 0
}

func isOne(n api.Int) bool {
	return num.Cmp(n, num.Of(1)) == 0
}

// of takes 0 in the place of what is not right.
func of(a api.Ratio) fraction {
	if !Right(a) {
		return none()
	}
	return fraction{api.Ratio{Num: num.Add(a.Num), Den: num.Add(a.Den)}}
}

func whole(n api.Int) fraction {
	return fraction{api.Ratio{Num: n, Den: num.Of(1)}}
}

func none() fraction {
	return whole(api.Int{})
}

// lowest is n by d, which is not 0. The divisor takes the sign of d: so d comes out above 0.
func lowest(n, d api.Int) fraction {
	divisor := num.Gcd(n, d)
	if d.Neg {
		divisor = num.Neg(divisor)
	}
	var a fraction
	a.Num, _, _ = num.DivMod(n, divisor)
	a.Den, _, _ = num.DivMod(d, divisor)
	return a
}

// fold puts one ratio behind the other to start.
func fold(start fraction, put func(a, b fraction) fraction, l ...api.Ratio) fraction {
	for _, a := range l {
		start = put(start, of(a))
	}
	return start
}

// compare holds both against each other as they are over one Den, which is above 0.
func (a fraction) compare(b fraction) int {
	return num.Cmp(num.Mul(a.Num, b.Den), num.Mul(b.Num, a.Den))
}

func (a fraction) plus(b fraction) fraction {
	return lowest(num.Add(num.Mul(a.Num, b.Den), num.Mul(b.Num, a.Den)), num.Mul(a.Den, b.Den))
}

func (a fraction) times(b fraction) fraction {
	return lowest(num.Mul(a.Num, b.Num), num.Mul(a.Den, b.Den))
}

func (a fraction) negated() fraction {
	return fraction{api.Ratio{Num: num.Neg(a.Num), Den: a.Den}}
}

// turned is 1 by a, which is not 0.
func (a fraction) turned() fraction {
	return lowest(a.Den, a.Num)
}

func (a fraction) floor() api.Int {
	down, _, _ := num.DivMod(a.Num, a.Den)
	return down
}

func (a fraction) decimal() string {
	if isOne(a.Den) {
		return num.Text(a.Num)
	}
	return num.Text(a.Num) + "/" + num.Text(a.Den)
}
