package model

// ahead is what is still ahead of one who goes through terms or values, the next one last. It stands in a row, and not
// in nested calls: these may be deeper than calls can go.
type ahead[T any] []T

// lay lets the turn of one come ahead of what was there. What has several parts lays the last one first: so they come
// from the left, and, as lists are long to the right, the row stays short.
func (a *ahead[T]) lay(one T) {
	*a = append(*a, one)
}

// each hands out one after the other, till none is ahead. What is laid meanwhile is handed out too.
func (a *ahead[T]) each(yield func(now T) bool) {
	for len(*a) > 0 {
		last := len(*a) - 1
		now := (*a)[last]
		*a = (*a)[:last]
		if !yield(now) {
			return
		}
	}
}
