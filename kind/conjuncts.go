package kind

import (
	"slices"

	"whetstone/api"
	"whetstone/term"
)

// conjuncts are those of t, one behind the other. What is ahead stands in a row, the next one last.
func conjuncts(t api.Term) []api.Term {
	var l []api.Term
	ahead := []api.Term{t}
	for len(ahead) > 0 {
		last := len(ahead) - 1
		now := ahead[last]
		ahead = ahead[:last]
		switch {
		case now.Kind == api.TermAnd:
			for _, kid := range slices.Backward(now.Kids) {
				ahead = append(ahead, kid)
			}
		case now.Kind != api.TermTrue || len(now.Kids) > 0:
			l = append(l, now)
		}
	}
	return l
}

// unknown are those of more that are none of l, and not among those ahead.
func unknown(l []api.Term, more ...api.Term) []api.Term {
	met := map[string]int{}
	for _, t := range l {
		met[term.Key(t)]++
	}
	var fresh []api.Term
	for _, t := range more {
		key := term.Key(t)
		if met[key] == 0 {
			fresh = append(fresh, t)
		}
		met[key]++
	}
	return fresh
}
