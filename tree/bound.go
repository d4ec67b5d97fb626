package tree

// bound are the names that are bound somewhere: how many times each.
type bound struct{ times map[string]int }

// in lets names be bound from here on.
func (b *bound) in(names ...string) {
	if b.times == nil {
		b.times = map[string]int{}
	}
	for _, name := range names {
		b.times[name]++
	}
}

// out undoes what in did with these.
func (b *bound) out(names ...string) {
	for _, name := range names {
		b.times[name]--
	}
}

// free tells whether a name is not bound here.
func (b *bound) free(name string) bool {
	return b.times[name] == 0
}
