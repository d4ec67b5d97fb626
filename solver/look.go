package solver

import (
	"slices"

	"whetstone/api"
)

// end is what comes of looking: a certificate, or a model; neither, if steps ran out, or if it was left open because
// numbers were halved too often.
type end struct {
	tree  *tree
	met   bool
	model []api.Atomic
	out   bool
}

// isOpen tells whether it was left open.
func (e end) isOpen() bool {
	return e.tree == nil && !e.met && !e.out
}

// look looks for what comes of facts behind the others, and goes back.
func (w *world) look(nodes ...int) end {
	m := w.mark()
	w.lay(nodes...)
	told := w.onward()
	if told.tree != nil {
		told.tree = w.filled(told.tree, m)
	}
	w.back(m)
	return told
}

// onward is what comes of the facts.
func (w *world) onward() end {
	for w.spend(512 + len(w.point)/16) {
		if t := w.settle(); t != nil {
			return end{tree: t}
		}
		if t := w.place(); t != nil {
			return end{tree: t}
		}
		if w.left < 0 {
			break
		}
		if fact, met := w.unmet(); met {
			return w.split(fact)
		}
		at := slices.IndexFunc(w.point, func(n api.Ratio) bool { return !isWhole(n) })
		if at < 0 {
			return w.model()
		}
		if told, ends := w.mend(at); ends {
			return told
		}
	}
	return end{out: true}
}

// unmet is a disjunction that does not come to true here: one of which the fewest kids may be, of such ones the last.
func (w *world) unmet() (int, bool) {
	found, fewest := none, 0
	for _, fact := range w.ways {
		at := w.facts[fact]
		if w.isGone(fact) || w.holds(at) {
			continue
		}
		_, many := w.mayBe(w.nodeAt[at].kids...)
		if found == none || many <= fewest {
			found, fewest = fact, many
		}
	}
	return found, found != none
}

// split looks at each kid of a disjunction.
func (w *world) split(fact int) end {
	w.leave(fact)
	return w.each(stepOn(api.ProofCase, fact, w.next(), 1), w.nodeAt[w.facts[fact]].kids...)
}

// each looks at each of a step's kids, which has one node behind. What a certificate for one shows without that node is
// shown.
func (w *world) each(t *tree, nodes ...int) end {
	isOpen := false
	for _, at := range nodes {
		told := end{}
		if w.status(at) == no {
			told.tree = w.refute(at, t.first, t.first+1)
		} else {
			told = w.look(at)
		}
		switch {
		case told.met || told.out:
			return told
		case told.isOpen():
			isOpen = true
		case !told.tree.usesAny(t.first, 1):
			return told
		}
		t.kids = append(t.kids, told.tree)
	}
	if isOpen {
		return end{}
	}
	return end{tree: t.done()}
}
