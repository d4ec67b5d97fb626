package solver

// holds tells whether a node comes to true here.
func (w *world) holds(at int) bool {
	w.left--
	n := &w.nodeAt[at]
	switch n.kind {
	case never:
		return false
	case allOf:
		return !w.any(false, n.kids...)
	case oneOf:
		return w.any(true, n.kids...)
	case truth:
		return (w.ofTruth(n.a) == yes) != n.denied
	case same:
		return w.areOne(n.a, n.b) != n.denied
	case claims:
		return w.holdsClaim(&n.claim)
	}
	return true
}

// any tells whether any of the nodes comes to that.
func (w *world) any(is bool, nodes ...int) bool {
	for _, at := range nodes {
		if w.holds(at) == is {
			return true
		}
	}
	return false
}

func (w *world) holdsClaim(c *claim) bool {
	if c.broken || c.form == none {
		return !c.broken
	}
	order := w.compare(c.form, c.number)
	return order == 0 || order < 0 && c.side == above || order > 0 && c.side == below
}
