package linear

import (
	"maps"
	"slices"

	"whetstone/api"
	"whetstone/num"
	"whetstone/ratio"
	"whetstone/term"
)

// number is a broken number that grows, right and in memory of its own.
type number struct{ api.Ratio }

func none() number {
	return number{ratio.Add()}
}

func (n *number) grow(by api.Ratio) {
	n.Ratio = ratio.Add(n.Ratio, by)
}

func (n *number) isNone() bool {
	return len(n.Num.Digits) == 0
}

// sum is a sum that is put together: a number, and atoms by their keys, how many times each comes, never 0 times.
type sum struct {
	number
	atoms map[string]number
}

func newSum() sum {
	return sum{none(), map[string]number{}}
}

func (s *sum) putAtom(key string, times api.Ratio) {
	n, met := s.atoms[key]
	if !met {
		n = none()
	}
	n.grow(times)
	s.atoms[key] = n
	if n.isNone() {
		delete(s.atoms, key)
	}
}

// atomsTold are the keys of the atoms, rising, and how many times each comes.
func (s *sum) atomsTold() (keys []string, times []api.Ratio) {
	keys = slices.Sorted(maps.Keys(s.atoms))
	for _, key := range keys {
		times = append(times, s.atoms[key].Ratio)
	}
	return keys, times
}

func (s *sum) putLinear(times api.Ratio, l api.Linear) {
	for i, key := range l.Keys {
		s.putAtom(key, ratio.Mul(times, ratio.Whole(l.Coefs[i])))
	}
	s.grow(ratio.Mul(times, ratio.Whole(l.Const)))
}

// share is a part of a term that comes so many times into a sum.
type share struct {
	*api.Term
	times api.Int
}

// isSum tells whether the part is a sum, if its kids are.
func (s share) isSum() bool {
	switch s.Kind {
	case api.TermNum:
		return len(s.Kids) == 0 && num.Right(s.Num)
	case api.TermScale:
		return len(s.Kids) == 1 && num.Right(s.Num)
	case api.TermAdd:
		return true
	}
	return isAtom(*s.Term)
}

// putTerm tells whether t is a sum; if not, what was put is of no use. What is ahead stands in a row, and not in nested
// calls: a term may be deeper than calls can go.
func (s *sum) putTerm(t api.Term) bool {
	ahead := []share{{&t, num.Of(1)}}
	for len(ahead) > 0 {
		now := ahead[len(ahead)-1]
		ahead = ahead[:len(ahead)-1]
		if !now.isSum() {
			return false
		}
		switch now.Kind {
		case api.TermNum:
			s.grow(ratio.Whole(num.Mul(now.times, now.Num)))
		case api.TermScale:
			ahead = append(ahead, share{&now.Kids[0], num.Mul(now.times, now.Num)})
		case api.TermAdd:
			for i := range now.Kids {
				ahead = append(ahead, share{&now.Kids[i], now.times})
			}
		default:
			s.putAtom(term.Key(*now.Term), ratio.Whole(now.times))
		}
	}
	return true
}
