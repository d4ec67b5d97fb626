package term

import "whetstone/api"

// turn is a part, and what is done with it when its turn comes.
type turn struct {
	part *api.Term
	do   func(part *api.Term)
}

// walker goes through terms. What is still ahead stands in a row, the next one last, and not in nested calls: a term
// may be deeper than these can go.
type walker struct{ ahead []turn }

// next lets the part's turn come ahead of all others.
func (w *walker) next(do func(part *api.Term), part *api.Term) {
	w.ahead = append(w.ahead, turn{part, do})
}

// into lets the turns of a row come ahead of all others, from the left. What is done is done with the row's own parts.
func (w *walker) into(do func(part *api.Term), row ...api.Term) {
	for i := len(row) - 1; i >= 0; i-- {
		w.next(do, &row[i])
	}
}

// run goes on till nothing is ahead.
func (w *walker) run() {
	for len(w.ahead) > 0 {
		last := len(w.ahead) - 1
		now := w.ahead[last]
		w.ahead = w.ahead[:last]
		now.do(now.part)
	}
}

// each hands all parts of a row to visit, from the left, each ahead of its kids. Kids that visit lays into a part are
// handed to it too.
func each(visit func(part *api.Term), row ...api.Term) {
	var w walker
	var do func(part *api.Term)
	do = func(part *api.Term) {
		visit(part)
		w.into(do, part.Kids...)
	}
	w.into(do, row...)
	w.run()
}

// gatherer goes through a term, and makes what there is to tell of a part out of what is told of its kids.
type gatherer[T any] struct {
	walker
	told []T // of the parts whose term's turn is still ahead
}

// gather is what leave tells of t. A part comes to enter ahead of its kids, and to leave behind them, with what it told
// of these.
func (g *gatherer[T]) gather(t *api.Term, enter func(part *api.Term), leave func(part *api.Term, kids ...T) T) T {
	tell := func(part *api.Term) {
		ahead := len(g.told) - len(part.Kids)
		g.told = append(g.told[:ahead], leave(part, g.told[ahead:]...))
	}
	var do func(part *api.Term)
	do = func(part *api.Term) {
		enter(part)
		g.next(tell, part)
		g.into(do, part.Kids...)
	}
	g.next(do, t)
	g.run()
	return g.told[0]
}

// stopped does it, and is the error that was thrown on the way; api.OK, if none was.
func stopped(do func()) (e api.Errno) {
	defer func() {
		if thrown := recover(); thrown != nil {
			e = thrown.(api.Errno)
		}
	}()
	do()
	return api.OK
}
