package simplex

import (
	"slices"

	"whetstone/num"
)

// Which equation is turned, and for which column, is chosen so that it comes to an end. Equations without keys stay so,
// whatever is turned among them: a turn for a key leaves one less that has keys. Between two such turns the cost never
// sinks, so what was left for a higher cost does not come back; and as long as the cost stays, the first slack and the
// first column are taken, which goes in no ring (Bland's rule).

// below is the place of the open equation that is turned next, of those whose slack is below 0.
func (t *tableau) below() (int, bool) {
	next := -1
	for i, e := range t.open {
		if e.isBelow() && (next < 0 || t.isAhead(e, t.open[next])) {
			next = i
		}
	}
	return next, next >= 0
}

// isBelow tells whether the column that e is solved for is below 0 where the others are 0.
func (e *equation) isBelow() bool {
	return !e.number.Neg && !isNone(e.number)
}

// isAhead tells whether e is turned rather than f. Those without keys may show at once that it can't be; of those with
// keys a short one makes the others longer by less.
func (t *tableau) isAhead(e, f *equation) bool {
	switch {
	case t.hasKey(e) != t.hasKey(f):
		return t.hasKey(f)
	case t.hasKey(e):
		return len(e.parts) < len(f.parts)
	case t.flat:
		return e.solved < f.solved
	}
	return num.Cmp(num.Mul(e.number, f.times(f.solved)), num.Mul(f.number, e.times(e.solved))) > 0
}

// hasKey tells whether a key comes in e: keys are the first columns.
func (t *tableau) hasKey(e *equation) bool {
	return t.isKey(e.parts[0].column)
}

// turnable is a column by which the slack of e, which is below 0, can be raised: a key, which may be anything; or a slack,
// which may only grow, so it must come less than 0 times. Of these it is the first one by which the cost grows least: with
// any other one a slack would come less than 0 times in the cost.
func (t *tableau) turnable(e *equation) (int, bool) {
	if t.hasKey(e) {
		return e.parts[0].column, true
	}
	raising := slices.DeleteFunc(slices.Clone(e.parts), func(p part) bool { return !p.times.Neg })
	if len(raising) == 0 {
		return 0, false
	}
	least := slices.MinFunc(raising, func(p, q part) int {
		return num.Cmp(num.Mul(t.cost.times(q.column), p.times), num.Mul(t.cost.times(p.column), q.times))
	})
	return least.column, true
}
