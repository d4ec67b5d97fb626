package cong_test

import (
	"slices"
	"testing"

	"whetstone/api"
	"whetstone/cong"
)

// P8.1

func TestTheDocumentsExampleOfAPath(t *testing.T) {
	x, y, z := name("x"), name("y"), name("z")
	facts := []api.Term{equals(x, y), equals(z, y)}
	got, e := cong.Same(facts, x, z, 0, 1)
	holds(t, got, e, equals(x, z), api.OK)
	got, e = cong.Same(facts, x, z, 1, 0)
	holds(t, got, e, api.Term{}, api.ErrProof)
}

// leads fails, unless the places are a path from a to b, and back from b to a.
func leads(t *testing.T, facts []api.Term, a, b api.Term, at ...int) {
	t.Helper()
	got, e := cong.Same(facts, a, b, at...)
	holds(t, got, e, equals(a, b), api.OK, at)
	back := slices.Clone(at)
	slices.Reverse(back)
	got, e = cong.Same(facts, b, a, back...)
	holds(t, got, e, equals(b, a), api.OK, back)
}

// misses fails, unless the places are no path from a to b.
func misses(t *testing.T, facts []api.Term, a, b api.Term, at ...int) {
	t.Helper()
	got, e := cong.Same(facts, a, b, at...)
	holds(t, got, e, api.Term{}, api.ErrProof, at)
}

func TestPaths(t *testing.T) {
	x, y, z, w := name("x"), name("y"), name("z"), name("w")
	facts := []api.Term{equals(x, y), equals(z, y), equals(z, z), yes(), equals(z, w), equals(x, y)}
	for _, c := range []struct {
		a, b api.Term
		at   []int
	}{
		{x, y, []int{0}}, {x, y, []int{5}}, {x, z, []int{0, 1}}, {x, w, []int{0, 1, 4}}, {y, w, []int{1, 4}}, {z, w, []int{4}}, {y, z, []int{1}},
		// There and back, and along another one of the same sides.
		{x, x, []int{0, 0}}, {x, x, []int{0, 5}}, {y, y, []int{5, 0}}, {x, y, []int{0, 0, 0}}, {x, x, []int{0, 1, 4, 4, 1, 0}}, {x, z, []int{0, 1, 1, 1}}, {y, y, []int{1, 1, 5, 0}},
		// Where an edge's kids are the same, one stays.
		{z, z, []int{2}}, {z, z, []int{2, 2, 2}}, {x, z, []int{0, 1, 2}}, {x, w, []int{0, 1, 2, 2, 4}}, {y, y, []int{1, 2, 1}},
	} {
		leads(t, facts, c.a, c.b, c.at...)
	}
	for _, c := range []struct {
		a, b api.Term
		at   []int
	}{
		// Elsewhere at the end.
		{x, x, []int{0}}, {x, z, []int{0}}, {x, y, []int{0, 0}}, {x, z, []int{0, 1, 1}}, {z, w, []int{2}}, {x, name("X"), []int{0, 0}}, {x, w, []int{0, 1, 4, 4}}, {x, y, []int{0, 1}},
		// An edge that does not lead on from where one stands, wherever it stands in the row.
		{x, z, []int{1, 0}}, {x, y, []int{1}}, {x, y, []int{0, 4}}, {x, x, []int{4}}, {y, y, []int{2}}, {x, y, []int{2, 0}}, {x, y, []int{0, 2}}, {name("v"), name("v"), []int{0}}, {x, w, []int{0, 4}}, {x, x, []int{0, 4, 0}},
		// No edge at all.
		{yes(), yes(), []int{3}}, {x, y, []int{0, 3}}, {x, y, []int{3, 0}}, {x, x, []int{3}}, {api.Term{}, api.Term{}, []int{3}},
		// Not there.
		{x, y, []int{6}}, {x, y, []int{-1}}, {x, y, []int{0, 6}}, {x, y, []int{6, 0}}, {x, y, []int{0, -1}}, {x, x, []int{-1}}, {x, x, []int{most}}, {x, x, []int{-most - 1}}, {x, x, []int{0, 0, 7}}, {y, y, []int{-6}},
	} {
		misses(t, facts, c.a, c.b, c.at...)
	}
}

// Along no places, whatever the facts are, and whatever the term is.
func TestNoPlaces(t *testing.T) {
	x, y := name("x"), name("y")
	for _, facts := range [][]api.Term{nil, {}, {equals(x, y)}, {equals(y, x), equals(x, x)}} {
		for _, a := range []api.Term{x, {}, name(""), number(-7), yes(), equals(), app("f", x, y), laden(x), kids(255, x), equals(x, y), not(not(x))} {
			leads(t, facts, a, a)
			got, e := cong.Same(facts, a, a, []int{}...)
			holds(t, got, e, equals(a, a), api.OK)
			misses(t, facts, a, y)
			misses(t, facts, y, a)
		}
	}
	misses(t, nil, x, x, 0)
	misses(t, []api.Term{}, x, x, 0)
	misses(t, nil, x, x, -1)
}

// Only a TermEq of two kids is an edge; what is beside that is not asked of it.
func TestEdges(t *testing.T) {
	x, y := name("x"), name("y")
	for k := range 256 {
		kind := api.TermKind(k)
		for n := range 5 {
			fact := kids(kind, x, y, x, y)
			fact.Kids = fact.Kids[:n]
			for _, fact := range []api.Term{fact, laden(fact)} {
				facts := []api.Term{equals(x, x), fact}
				if kind == api.TermEq && n == 2 {
					leads(t, facts, x, y, 1)
					leads(t, facts, x, y, 0, 1)
					continue
				}
				misses(t, facts, x, y, 1)
				misses(t, facts, y, x, 1)
				misses(t, facts, x, x, 1)
				misses(t, facts, x, x, 1, 1)
			}
		}
	}
	// What stands within a fact is none.
	for _, fact := range []api.Term{and(equals(x, y)), not(equals(x, y)), not(not(equals(x, y))), or(equals(x, y)), equals(equals(x, y), yes())} {
		misses(t, []api.Term{fact}, x, y, 0)
	}
	leads(t, []api.Term{equals(equals(x, y), yes())}, equals(x, y), yes(), 0)
}

// Terms are the same just if their Keys are: in all their parts, those too that their kinds do not name.
func TestTermsThatAreTheSame(t *testing.T) {
	x, y := name("x"), name("y")
	different := []api.Term{
		{}, x, y, name(""), {Kind: api.TermVar, Name: "x", Num: api.Int{Neg: true}}, {Kind: api.TermVar, Name: "x", Num: api.Int{Digits: []uint32{0}}}, {Kind: api.TermVar, Name: "x", Kids: []api.Term{x}}, {Kind: api.TermNum, Name: "x"},
		number(0), number(1), number(-1), {Kind: api.TermNum, Num: api.Int{Digits: []uint32{1, 0}}}, {Kind: api.TermNum, Num: api.Int{Digits: []uint32{0, 1}}}, app("f", x), app("f", y), app("g", x), app("f", x, x), app("f"),
		add(x, y), add(y, x), add(x), add(add(x, y)), add(x, y, x), equals(x, y), equals(y, x), below(x, y), yes(), kids(255), laden(x), laden(yes()), name("x 0"), name("1:x"),
	}
	for i, a := range different {
		for j, b := range different {
			facts := []api.Term{equals(a, b), equals(b, a)}
			leads(t, facts, a, b, 0)
			leads(t, facts, a, b, 1)
			leads(t, facts, a, a, 0, 1)
			if i == j {
				leads(t, facts, a, b)
				continue
			}
			misses(t, facts, a, b)
			misses(t, facts, a, a, 0)
			misses(t, facts, a, b, 0, 1)
			c := name("other")
			misses(t, []api.Term{equals(c, a), equals(b, c)}, c, c, 0, 1)
			misses(t, []api.Term{equals(c, a)}, b, c, 0)
			misses(t, []api.Term{equals(c, a)}, c, b, 0)
		}
	}
}

// What is told is the equality alone, and nothing beside, whatever the edges have.
func TestWhatIsToldHasNothingBeside(t *testing.T) {
	x, y := laden(name("x")), laden(add(name("y")))
	got, e := cong.Same([]api.Term{laden(equals(x, y))}, x, y, 0)
	holds(t, got, e, equals(x, y), api.OK)
	if got.Name != "" || got.Num.Neg || got.Num.Digits != nil {
		t.Error(short(got))
	}
}
