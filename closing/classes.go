package closing

// classes are those of terms, known by their numbers: terms between which there is a path are of one class. A class is
// known by one of its terms.
type classes struct {
	over []int // a term nearer to the one by which its class is known; that one itself, of that one
	many []int // terms of the class that is known by this one
}

func (c *classes) class(number int) int {
	for next := len(c.over); next <= number; next++ {
		c.over, c.many = append(c.over, next), append(c.many, 1)
	}
	for c.over[number] != number {
		c.over[number] = c.over[c.over[number]]
		number = c.over[number]
	}
	return number
}

// join makes one class of those of two terms. The greater one stays what it was known by, so that a term's class is
// seldom another one.
func (c *classes) join(a, b int) {
	a, b = c.class(a), c.class(b)
	if a == b {
		return
	}
	if c.many[a] < c.many[b] {
		a, b = b, a
	}
	c.over[b] = a
	c.many[a] += c.many[b]
}
