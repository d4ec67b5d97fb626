package closing

import "slices"

// none is a number that nothing has.
const none = -1

// group is what apps have in common, so that two of them may be a pair: their name, and the class of what they are of.
type group struct {
	name  string
	class int
}

// pair are two apps by their places, the earlier one first.
type pair struct{ first, second int }

// member is an app in its group.
type member struct {
	app
	truth bool // of a function to bool
	key   group
	group int // its number
}

// due is the first pair that is due.
func (c *closer) due() (pair, bool) {
	c.regroup()
	next, open := c.chains()
	for first := range c.apps {
		if !open[c.apps[first].group] {
			continue
		}
		for second := next[first]; second != none; second = next[second] {
			if p := (pair{first, second}); c.isDue(p) {
				return p, true
			}
		}
	}
	return pair{}, false
}

// isDue is whether a pair of one group is due.
func (c *closer) isDue(p pair) bool {
	a, b := &c.apps[p.first], &c.apps[p.second]
	if a.of == b.of {
		return false
	}
	if a.truth {
		_, met := c.taken[p]
		return !met
	}
	return c.class(a.number) != c.class(b.number)
}

// regroup puts apps into their groups, where the class of what they are of is another one by now.
func (c *closer) regroup() {
	for i := range c.apps {
		a := &c.apps[i]
		if class := c.class(a.of); class != a.key.class {
			a.key.class = class
			a.group = c.groupOf(a.key)
		}
	}
}

// groupOf is the number of a group.
func (c *closer) groupOf(key group) int {
	known, met := c.groups[key]
	if met {
		return known
	}
	next := len(c.groups)
	c.groups[key] = next
	return next
}

// chains tells of each app the next one of its group, and of each group whether a pair of it may be due: none is, where
// all its apps are of one class (as truths never are, which stand in no edges). That holds of most groups, and saves
// going through all pairs of these.
func (c *closer) chains() (next []int, open []bool) {
	next, open = make([]int, len(c.apps)), make([]bool, len(c.groups))
	heads := slices.Repeat([]int{none}, len(c.groups))
	for i := range slices.Backward(c.apps) {
		a := &c.apps[i]
		next[i] = heads[a.group]
		heads[a.group] = i
		if next[i] != none {
			other := &c.apps[next[i]]
			open[a.group] = open[a.group] || c.class(a.number) != c.class(other.number)
		}
	}
	return next, open
}
