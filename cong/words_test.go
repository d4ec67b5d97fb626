package cong_test

import (
	"math/rand"
	"slices"
	"testing"

	"whetstone/api"
	"whetstone/cong"
	"whetstone/term"
)

// Same and Apply in the words of the document, and held against these.

func isEdge(fact api.Term) bool { return fact.Kind == api.TermEq && len(fact.Kids) == 2 }

// ends are the terms at which one stands behind the places, each step being gone both ways; none, where no step leads on.
func ends(facts []api.Term, a api.Term, at ...int) []api.Term {
	if len(at) == 0 {
		return []api.Term{a}
	}
	if at[0] < 0 || at[0] >= len(facts) || !isEdge(facts[at[0]]) {
		return nil
	}
	var all []api.Term
	sides := facts[at[0]].Kids
	if term.Key(a) == term.Key(sides[0]) {
		all = append(all, ends(facts, sides[1], at[1:]...)...)
	}
	if term.Key(a) == term.Key(sides[1]) {
		all = append(all, ends(facts, sides[0], at[1:]...)...)
	}
	return all
}

func reckonSame(facts []api.Term, a, b api.Term, at ...int) (api.Term, api.Errno) {
	if !slices.ContainsFunc(ends(facts, a, at...), func(end api.Term) bool { return term.Key(end) == term.Key(b) }) {
		return api.Term{}, api.ErrProof
	}
	return equals(a, b), api.OK
}

func isData(datas []api.Data, sort string) bool {
	return sort != "int" && sort != "bool" && slices.ContainsFunc(datas, func(d api.Data) bool { return d.Name == sort })
}

func reckonApply(datas []api.Data, scope []api.Sorted, facts []api.Term, at int, f string) (api.Term, api.Errno) {
	if at < 0 || at >= len(facts) || !isEdge(facts[at]) {
		return api.Term{}, api.ErrProof
	}
	a, b := facts[at].Kids[0], facts[at].Kids[1]
	sort, e := term.Sort(datas, scope, a)
	other, e2 := term.Sort(datas, scope, b)
	if e != api.OK || e2 != api.OK || sort != other || !isData(datas, sort) {
		return api.Term{}, api.ErrProof
	}
	from, to, ok := term.Function(datas, f)
	if !ok || f != "tag" && from != sort {
		return api.Term{}, api.ErrSort
	}
	switch {
	case to == "int" || isData(datas, to):
		return equals(app(f, a), app(f, b)), api.OK
	case to == "bool":
		return both(app(f, a), app(f, b)), api.OK
	}
	return api.Term{}, api.ErrSort
}

// someWalk is a row of places that lead on from a as often as may be, and where one stands behind them.
func someWalk(r *rand.Rand, facts []api.Term, a api.Term) ([]int, api.Term) {
	var at []int
	for range r.Intn(7) {
		for range 10 {
			i := r.Intn(len(facts))
			if on := ends(facts, a, i); len(on) > 0 {
				at, a = append(at, i), on[0]
				break
			}
		}
	}
	return at, a
}

func TestSameIsAsTheWordsSay(t *testing.T) {
	r := rand.New(rand.NewSource(1))
	many := map[api.Errno]int{}
	for range 20000 {
		var sides, facts []api.Term
		for range 1 + r.Intn(5) {
			sides = append(sides, someSide(r, 3))
		}
		for range 1 + r.Intn(7) {
			facts = append(facts, someFact(r, sides...))
		}
		a := pick(r, sides...)
		at, b := someWalk(r, facts, a)
		switch r.Intn(6) {
		case 0:
			b = pick(r, sides...)
		case 1:
			at = append(at, r.Intn(len(facts)+2)-1)
		case 2:
			at = slices.Insert(at, r.Intn(len(at)+1), r.Intn(len(facts)+2)-1)
		}
		want, wantE := reckonSame(facts, a, b, at...)
		got, e := cong.Same(facts, a, b, at...)
		holds(t, got, e, want, wantE, at, shorts(facts...), shorts(a, b))
		many[e]++
	}
	if many[api.OK] < 5000 || many[api.ErrProof] < 2000 {
		t.Error(many)
	}
}

func TestApplyIsAsTheWordsSay(t *testing.T) {
	r := rand.New(rand.NewSource(2))
	many := map[api.Errno]int{}
	told := map[api.TermKind]int{}
	for range 40000 {
		var facts []api.Term
		for range r.Intn(4) {
			a := someSide(r, 3)
			facts = append(facts, someFact(r, a, a, a, pick(r, name("l"), app("BOX.1", a), name("b"), name("e")), someSide(r, 3)))
		}
		datas, scope := world(), scope()
		if r.Intn(8) == 0 {
			datas = datas[r.Intn(len(datas)):]
		}
		if r.Intn(8) == 0 {
			scope[r.Intn(len(scope))].Sort = pick(r, "int", "bool", "list", "box", "", "none")
		}
		f, at := pick(r, functions()...), r.Intn(len(facts)+2)-1
		if r.Intn(2) == 0 {
			f, at = pick(r, "tag", "CONS.1", "BOX.0", "LATE.0", "E.1"), max(0, len(facts)-1)
		}
		want, wantE := reckonApply(datas, scope, facts, at, f)
		got, e := cong.Apply(datas, scope, facts, at, f)
		holds(t, got, e, want, wantE, at, f, shorts(facts...))
		many[e]++
		told[got.Kind]++
	}
	if many[api.OK] < 2000 || many[api.ErrProof] < 2000 || many[api.ErrSort] < 2000 || told[api.TermEq] < 1000 || told[api.TermAnd] < 300 {
		t.Error(many, told)
	}
}
