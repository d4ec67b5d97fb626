package kind

import (
	"slices"

	"whetstone/api"
)

// work is a type at work: its shape, and the names that are in the scope where it stands.
type work[T any] struct {
	shape
	*names[T]
}

// walker goes through a type from the outside in, parts from the left, each with the parameters ahead of it in the
// scope. What is ahead stands in a row, the next one last, so that types of any depth are taken.
type walker[T any] struct {
	names[T]
	look  func(w work[T]) api.Errno     // its turn is ahead of the type's parts, which it may lay anew
	bind  func(p *api.Param) []named[T] // what a parameter brings into the scope
	ahead []turn
}

// turn is that of a type; or else of a parameter, behind its type; or else of a scope's end, behind a type's parts.
type turn struct {
	part  *api.Type
	param *api.Param
	but   int // how many names stay in the scope
}

// walk is the first error that a look tells.
func (w *walker[T]) walk(t *api.Type) api.Errno {
	w.next(turn{part: t})
	for len(w.ahead) > 0 {
		last := len(w.ahead) - 1
		now := w.ahead[last]
		w.ahead = w.ahead[:last]
		switch {
		case now.part != nil:
			if e := w.look(work[T]{shape{now.part}, &w.names}); e != api.OK {
				return e
			}
			w.into(now.part)
		case now.param != nil:
			w.in(w.bind(now.param)...)
		default:
			w.out(now.but)
		}
	}
	return api.OK
}

// next lets these come ahead of all others, in their order.
func (w *walker[T]) next(l ...turn) {
	for _, one := range slices.Backward(l) {
		w.ahead = append(w.ahead, one)
	}
}

func (w *walker[T]) into(t *api.Type) {
	var l []turn
	for i := range t.Params {
		p := &t.Params[i]
		l = append(l, turn{part: &p.Type}, turn{param: p})
	}
	for i := range t.Result {
		l = append(l, turn{part: &t.Result[i]})
	}
	w.next(append(l, turn{but: len(w.row)})...)
}
