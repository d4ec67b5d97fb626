package linear

import (
	"whetstone/api"
	"whetstone/num"
)

func isAtom(t api.Term) bool {
	return t.Kind == api.TermVar || t.Kind == api.TermApp
}

// isCoef tells whether n may stand in a linear: it is right, and not 0.
func isCoef(n api.Int) bool {
	return num.Right(n) && len(n.Digits) > 0
}

// rise tells whether each text is above the one ahead of it, byte by byte.
func rise(l ...string) bool {
	for i := range len(l) - 1 {
		if l[i] >= l[i+1] {
			return false
		}
	}
	return true
}

func all[T any](holds func(one T) bool, l ...T) bool {
	for _, one := range l {
		if !holds(one) {
			return false
		}
	}
	return true
}
