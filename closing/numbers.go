package closing

import (
	"slices"
	"strconv"

	"whetstone/api"
	"whetstone/term"
)

// turn is a part's; a part has a second one, when its kids are done.
type turn struct {
	part *api.Term
	done bool
}

// through hands all parts of the terms to do, from the left, kids ahead of their term, and with a part what do told of
// its kids. It tells what do told of the terms. What is ahead stands in a row, and not in nested calls: a term may be
// deeper than these can go.
func through(do func(part *api.Term, kids ...int) int, terms ...api.Term) []int {
	var told []int
	var ahead []turn
	enter := func(row []api.Term) {
		for i := range slices.Backward(row) {
			ahead = append(ahead, turn{part: &row[i]})
		}
	}
	enter(terms)
	for len(ahead) > 0 {
		last := len(ahead) - 1
		now := ahead[last]
		if !now.done {
			ahead[last].done = true
			enter(now.part.Kids)
			continue
		}
		ahead = ahead[:last]
		first := len(told) - len(now.part.Kids)
		told = append(told[:first], do(now.part, told[first:]...))
	}
	return told
}

// numbers are those by which terms are known: the same terms have one, counted from 0 on.
type numbers struct{ met map[string]int }

func newNumbers() numbers {
	return numbers{map[string]int{}}
}

func (n numbers) number(t api.Term) int {
	return through(n.ofPart, t)[0]
}

// ofPart is the number of a part whose kids have these. Its own Key would have those of its kids in it, and the Keys of
// all parts of a deep term would be far longer than the term.
func (n numbers) ofPart(part *api.Term, kids ...int) int {
	text := []byte(term.Key(api.Term{Kind: part.Kind, Name: part.Name, Num: part.Num}))
	for _, kid := range kids {
		text = strconv.AppendInt(text, int64(kid), 10)
		text = append(text, ' ')
	}
	known, met := n.met[string(text)]
	if met {
		return known
	}
	next := len(n.met)
	n.met[string(text)] = next
	return next
}

// copied is t in memory of its own.
func copied(t api.Term) api.Term {
	ahead := []*api.Term{&t}
	for len(ahead) > 0 {
		last := len(ahead) - 1
		part := ahead[last]
		ahead = ahead[:last]
		part.Num.Digits = append([]uint32(nil), part.Num.Digits...)
		part.Kids = append([]api.Term(nil), part.Kids...)
		for i := range part.Kids {
			ahead = append(ahead, &part.Kids[i])
		}
	}
	return t
}
