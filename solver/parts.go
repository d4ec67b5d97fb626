package solver

import (
	"maps"
	"slices"

	"whetstone/api"
	"whetstone/num"
	"whetstone/ratio"
)

// parts are things, by their numbers, each so many times, which is not 0.
type parts map[int]api.Int

// add lays others, so many times, beside p.
func (p parts) add(times api.Int, others parts) {
	for at, n := range others {
		total := num.Add(p[at], num.Mul(times, n))
		if isNone(total) {
			delete(p, at)
		} else {
			p[at] = total
		}
	}
}

// strip takes out what came to 0 times.
func (p parts) strip() {
	maps.DeleteFunc(p, func(_ int, n api.Int) bool { return isNone(n) })
}

// rising are the numbers of what there is.
func (p parts) rising() []int {
	return slices.Sorted(maps.Keys(p))
}

func (p parts) divisor() api.Int {
	return num.Gcd(slices.Collect(maps.Values(p))...)
}

// rarest is the part that comes least often, but for signs; of such ones the first.
func (p parts) rarest() int {
	return slices.MinFunc(p.rising(), func(a, b int) int { return num.Cmp(positive(p[a]), positive(p[b])) })
}

// mix is forms, each less the number that it is said to be, so many times.
type mix map[int]api.Ratio

// add lays others, so many times, beside m.
func (m mix) add(times api.Ratio, others mix) {
	for form, n := range others {
		n = ratio.Mul(n, times)
		if had, met := m[form]; met {
			n = ratio.Add(had, n)
		}
		m[form] = n
	}
}

// taken is m so many times.
func (m mix) taken(times api.Ratio) mix {
	told := mix{}
	told.add(times, m)
	return told
}

func (m mix) rising() []int {
	return slices.Sorted(maps.Keys(m))
}

func positive(n api.Int) api.Int {
	n.Neg = false
	return n
}

func isNone(n api.Int) bool {
	return len(n.Digits) == 0
}

func isOne(n api.Int) bool {
	return !n.Neg && len(n.Digits) == 1 && n.Digits[0] == 1
}

func isWhole(n api.Ratio) bool {
	return isOne(n.Den)
}

// oneBy is 1 by n, which is not 0.
func oneBy(n api.Int) api.Ratio {
	told, _ := ratio.Of(num.Of(1), n)
	return told
}
