package nat

import "whetstone/api"

// number is what its digits stand for.
type number struct{ digits }

func of(a []uint32) number {
	return number{carried(a)}
}

// fold puts one row behind the other to start.
func fold(start number, put func(a, b number) number, l ...[]uint32) number {
	for _, a := range l {
		start = put(start, of(a))
	}
	return start
}

func (a number) plus(b number) number {
	n := max(len(a.digits), len(b.digits))
	sum := make(digits, 0, n+1)
	var carry uint64
	for i := range n {
		carry += a.at(i) + b.at(i)
		sum = append(sum, uint32(carry%api.Base))
		carry /= api.Base
	}
	return number{append(sum, uint32(carry)).stripped()}
}

// minus needs b at most a.
func (a number) minus(b number) number {
	rest := make(digits, 0, len(a.digits))
	var borrow uint64
	for i := range a.digits {
		x := a.at(i) + api.Base - b.at(i) - borrow
		rest = append(rest, uint32(x%api.Base))
		borrow = 1 - x/api.Base
	}
	return number{rest.stripped()}
}

// times can't run over: a product of two digits, and two digits more, stay below the square of api.Base, which 64 bits
// hold.
func (a number) times(b number) number {
	product := make(digits, len(a.digits)+len(b.digits))
	for i := range a.digits {
		x, carry := a.at(i), uint64(0)
		for j, y := range b.digits {
			carry += product.at(i+j) + x*uint64(y)
			product[i+j] = uint32(carry % api.Base)
			carry /= api.Base
		}
		product[i+len(b.digits)] = uint32(carry)
	}
	return number{product.stripped()}
}
