package closing

import "whetstone/api"

// app is a function of one kid, known by its number, and the kid by its.
type app struct {
	api.Term
	number, of int
}

// appsOf are those of the facts, each once, where it comes first; all parts of the facts have numbers then.
func appsOf(n numbers, facts ...api.Term) []app {
	var apps []app
	through(func(part *api.Term, kids ...int) int {
		next := len(n.met)
		number := n.ofPart(part, kids...)
		if number == next && part.Kind == api.TermApp && len(kids) == 1 {
			apps = append(apps, app{*part, number, kids[0]})
		}
		return number
	}, facts...)
	return apps
}
