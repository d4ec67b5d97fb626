package term

import "whetstone/api"

// count is how many parts were made.
type count struct{ parts int }

// more counts parts in; above api.MaxTerm it throws api.ErrGrown.
func (c *count) more(parts ...int) {
	for _, n := range parts {
		c.parts += n
	}
	if c.parts > api.MaxTerm {
		panic(api.ErrGrown)
	}
}

// maker makes a term anew, part by part, in memory of its own. A part in the making is first laid into its place as it
// is, with its kids in their old memory, and moved out of that when its turn comes.
type maker struct {
	walker
	count
}

// make is what do makes of t.
func (m *maker) make(t api.Term, do func(part *api.Term)) api.Term {
	m.more(1)
	m.next(do, &t)
	m.run()
	return t
}

// keep makes a part as it is, and lets do go on with its kids.
func (m *maker) keep(part *api.Term, do func(part *api.Term)) {
	m.more(len(part.Kids))
	part.Num.Digits = append([]uint32(nil), part.Num.Digits...)
	part.Kids = append([]api.Term(nil), part.Kids...)
	m.into(do, part.Kids...)
}

// copied makes a part, with all its parts, as it is.
func (m *maker) copied(part *api.Term) {
	m.keep(part, m.copied)
}

// put tells what is made of a part: of a name that has a place the term at this, with which then goes on; of others the
// part as it is, and this of its kids. What is put in once more is copied from where it came in first: that is all made
// by then, since a part's own parts have their turns ahead of what stands to its right.
func (m *maker) put(places map[string]int, terms []api.Term, then func(part *api.Term)) func(part *api.Term) {
	first := make([]*api.Term, len(terms))
	var do func(part *api.Term)
	do = func(part *api.Term) {
		place, named := places[part.Name]
		switch {
		case !named || part.Kind != api.TermVar:
			m.keep(part, do)
		case first[place] != nil:
			*part = *first[place]
			m.copied(part)
		default:
			first[place] = part
			*part = terms[place]
			m.next(then, part)
		}
	}
	return do
}

// places are those of the names; of one that comes twice the last one's.
func places(names ...string) map[string]int {
	at := make(map[string]int, len(names))
	for i, name := range names {
		at[name] = i
	}
	return at
}
