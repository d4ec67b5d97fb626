package num

import (
	"whetstone/api"
	"whetstone/nat"
)

// number is one that is reckoned with. It is always right: all are made by signed.
type number struct {
	size
	below bool
}

// signed keeps 0 from being below 0.
func signed(s size, below bool) number {
	return number{s, below && !s.none()}
}

func of(a api.Int) number {
	return signed(nat.Trim(a.Digits), a.Neg)
}

func (n number) told() api.Int {
	return api.Int{Neg: n.below, Digits: n.size}
}

// each hands one number behind the other to take.
func each(take func(n number), l ...api.Int) {
	for _, a := range l {
		take(of(a))
	}
}

func (n number) compare(m number) int {
	switch {
	case n.below && m.below:
		return m.against(n.size)
	case n.below:
		return -1
	case m.below:
		return 1
	}
	return n.against(m.size)
}

func (n number) negated() number {
	return signed(n.size, !n.below)
}

func (n number) plus(m number) number {
	if n.below == m.below {
		return signed(n.joined(m.size), n.below)
	}
	gap, turned := n.apart(m.size)
	return signed(gap, n.below != turned)
}

func (n number) times(m number) number {
	return signed(n.scaled(m.size), n.below != m.below)
}

// divide needs m not 0. A quotient below 0 that is not exact is rounded away from 0: so it is 1 greater in size than
// that of the sizes, and what that one leaves is missing from the rest.
func (n number) divide(m number) (quotient, rest number) {
	q, r := n.split(m.size)
	if n.below == m.below || r.none() {
		return signed(q, n.below != m.below), signed(r, m.below)
	}
	missing, _ := m.apart(r)
	return signed(q.joined(size{1}), true), signed(missing, m.below)
}

func (n number) decimal() string {
	if n.below {
		return "-" + n.size.decimal()
	}
	return n.size.decimal()
}
