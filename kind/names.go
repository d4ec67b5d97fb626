package kind

// named is a name, and what it is in a scope.
type named[T any] struct {
	name string
	is   T
}

// names are those of a scope, in a row. Of a name that comes twice the last one counts.
type names[T any] struct {
	row    []named[T]
	places map[string][]int // of each name all in the row, rising
}

// in lets names come into the scope, behind all others.
func (n *names[T]) in(l ...named[T]) {
	if n.places == nil {
		n.places = map[string][]int{}
	}
	for _, one := range l {
		n.places[one.name] = append(n.places[one.name], len(n.row))
		n.row = append(n.row, one)
	}
}

// out lets all go out of the scope again but so many that came first.
func (n *names[T]) out(but int) {
	for len(n.row) > but {
		last := len(n.row) - 1
		name := n.row[last].name
		n.places[name] = n.places[name][:len(n.places[name])-1]
		n.row = n.row[:last]
	}
}

// of is what a name is, if it is in the scope.
func (n *names[T]) of(name string) (is T, known bool) {
	places := n.places[name]
	if len(places) == 0 {
		return is, false
	}
	return n.row[places[len(places)-1]].is, true
}
