package num

import "whetstone/nat"

// size is how far a number is from 0: a right row of digits, in memory of its own.
type size []uint32

func (s size) none() bool {
	return len(s) == 0
}

func (s size) against(t size) int {
	return nat.Cmp(s, t)
}

func (s size) joined(t size) size {
	return nat.Add(s, t)
}

// apart is how far both are from each other, and whether t is the greater one.
func (s size) apart(t size) (gap size, above bool) {
	gap, ok := nat.Sub(s, t)
	if !ok {
		gap, _ = nat.Sub(t, s)
	}
	return gap, !ok
}

func (s size) scaled(t size) size {
	return nat.Mul(s, t)
}

// split needs t above 0.
func (s size) split(t size) (quotient, rest size) {
	quotient, rest, _ = nat.DivMod(s, t)
	return quotient, rest
}

// common is the greatest divisor of both. What divides both divides the rest too, and the other way about: so the rest
// may stand for the greater one, till it is 0, which all divide.
func (s size) common(t size) size {
	for !t.none() {
		_, rest := s.split(t)
		s, t = t, rest
	}
	return s
}

func (s size) decimal() string {
	return nat.Text(s)
}
