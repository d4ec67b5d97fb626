package simplex

import (
	"slices"

	"whetstone/api"
	"whetstone/num"
)

// tableau are equations, each a sum of rows with their slacks: so a slack comes in it as many times as its row does.
type tableau struct {
	columns
	open []*equation // solved for slacks, each of which comes in no other open one
	done []*equation // solved for keys, each of which comes neither in those behind it nor in open ones
	cost *equation   // a sum of slacks that no open one is solved for, none less than 0 times: so no turn lowers it
	flat bool        // the last turn left the cost as it was
}

func newTableau(rows ...api.Linear) *tableau {
	t := &tableau{columns: columnsOf(rows...), cost: &equation{}}
	for i, row := range rows {
		e := &equation{number: row.Const, solved: t.ofSlack(i)}
		for at, key := range row.Keys {
			e.parts = append(e.parts, part{t.ofKey(key), row.Coefs[at]})
		}
		e.parts = append(e.parts, once(e.solved))
		t.open = append(t.open, e)
	}
	return t
}

// settle turns one equation behind the other, till no slack is below 0 where all columns are 0 for which none is solved;
// or it tells an equation that can't be: of slacks alone, none less than 0 times, and a number above 0.
func (t *tableau) settle() (*equation, bool) {
	for {
		at, found := t.below()
		if !found {
			return nil, false
		}
		column, found := t.turnable(t.open[at])
		if !found {
			return t.open[at], true
		}
		t.turn(at, column)
	}
}

// turn solves the open equation at a place for another column, and puts what it says into the others.
func (t *tableau) turn(at, column int) {
	turned := t.open[at].solvedFor(column)
	for i, e := range t.open {
		if i != at {
			t.open[i] = e.without(turned)
		}
	}
	if t.isKey(column) {
		t.finish(at, turned)
		return
	}
	t.open[at] = turned
	t.flat = isNone(t.cost.times(column))
	t.cost = t.cost.without(turned)
}

// finish lays the open equation at a place, solved for a key by now, to those that are done. Its slack costs from now on.
func (t *tableau) finish(at int, turned *equation) {
	slack := &equation{parts: []part{once(t.open[at].solved)}}
	t.cost = t.cost.plus(slack, num.Of(1), num.Of(1))
	t.flat = false
	t.done = append(t.done, turned)
	t.open = slices.Delete(t.open, at, at+1)
}
