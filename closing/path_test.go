package closing_test

import (
	"math/rand"
	"slices"
	"testing"

	"whetstone/api"
	"whetstone/closing"
	"whetstone/cong"
	"whetstone/num"
)

// P10.1: paths.

func TestTheDocumentsExampleOfAPath(t *testing.T) {
	l, m, n := name("l"), name("m"), name("n")
	facts := []api.Term{equals(l, m), equals(m, n), atMost(app("tag", l), number(0)), atMost(app("tag", n), number(0))}
	goes(t, facts, l, n, 0, 1)
	goes(t, facts, n, l, 1, 0)
}

func TestPaths(t *testing.T) {
	x, y, z, w := name("x"), name("y"), name("z"), name("w")
	facts := []api.Term{equals(x, y), equals(z, y), equals(z, z), yes(), equals(z, w), equals(x, y), equals(w, w)}
	for _, c := range []struct {
		a, b api.Term
		at   []int
	}{
		{x, y, []int{0}}, {y, x, []int{0}}, {x, z, []int{0, 1}}, {z, x, []int{1, 0}}, {x, w, []int{0, 1, 4}}, {w, x, []int{4, 1, 0}}, {y, w, []int{1, 4}}, {z, w, []int{4}},
		// Of a and a there are no places, whether an edge leads on from it or not.
		{x, x, nil}, {z, z, nil}, {w, w, nil}, {name("v"), name("v"), nil}, {yes(), yes(), nil}, {api.Term{}, api.Term{}, nil},
	} {
		goes(t, facts, c.a, c.b, c.at...)
	}
	for _, other := range []api.Term{name("v"), yes(), {}, name(""), equals(x, y), app("x"), number(0)} {
		for _, a := range []api.Term{x, y, z, w} {
			lost(t, facts, a, other)
		}
	}
	lost(t, facts, name("v"), name("V"))
	lost(t, facts[1:5], x, y)
}

func TestPathsAlongNoFacts(t *testing.T) {
	for _, facts := range [][]api.Term{nil, {}} {
		goes(t, facts, name("x"), name("x"))
		lost(t, facts, name("x"), name("y"))
	}
}

// The shortest one, wherever its places are.
func TestTheShortestPath(t *testing.T) {
	a, b, c, d, e := name("a"), name("b"), name("c"), name("d"), name("e")
	long := []api.Term{equals(a, b), equals(b, c), equals(c, d), equals(d, e)}
	goes(t, long, a, e, 0, 1, 2, 3)
	goes(t, append(long, equals(a, e)), a, e, 4)
	goes(t, append(long, equals(e, a)), a, e, 4)
	goes(t, append(long, equals(c, e)), a, e, 0, 1, 4)
	goes(t, append(long, equals(c, a)), a, e, 4, 2, 3)
	goes(t, append(long, equals(d, b)), a, e, 0, 4, 3)
	goes(t, append(long, equals(a, c), equals(c, e)), a, e, 4, 5)
	goes(t, append(long, equals(c, e), equals(a, c)), a, e, 5, 4)
	goes(t, append(long, equals(e, name("f")), equals(name("f"), a)), a, e, 5, 4)
}

// Of as short ones the least, place by place, from the first one on; not the last place counts, nor the greatest, nor
// their sum.
func TestTheLeastOfAsShortPaths(t *testing.T) {
	a, b, c, d := name("a"), name("b"), name("c"), name("d")
	goes(t, []api.Term{equals(a, b), equals(a, b), equals(b, a)}, a, b, 0)
	goes(t, []api.Term{equals(c, b), equals(a, b), equals(a, b), equals(b, c)}, a, c, 1, 0)
	goes(t, []api.Term{equals(c, b), equals(a, b), equals(a, b), equals(b, c)}, c, a, 0, 1)
	// By b 1 and 2, by c 0 and 9.
	facts := append([]api.Term{equals(a, c), equals(a, b), equals(b, d)}, slices.Repeat([]api.Term{yes()}, 6)...)
	facts = append(facts, equals(c, d))
	goes(t, facts, a, d, 0, 9)
	goes(t, facts, d, a, 2, 1)
	goes(t, facts[1:], a, d, 0, 1)
	goes(t, facts[:9], a, d, 1, 2)
	// The first place leads to where it is not nearer.
	goes(t, []api.Term{equals(a, c), equals(a, b), equals(b, d), equals(c, c)}, a, d, 1, 2)
	goes(t, []api.Term{equals(a, c), equals(c, name("e")), equals(a, b), equals(b, d), equals(name("e"), d)}, a, d, 2, 3)
	// One stays at a, at b, and on the way: that is never shorter.
	goes(t, []api.Term{equals(a, a), equals(b, b), equals(d, d), equals(a, b), equals(b, d)}, a, d, 3, 4)
}

// Only a TermEq of two kids is an edge; what is beside that is not asked of it.
func TestEdges(t *testing.T) {
	x, y := name("x"), name("y")
	for k := range 256 {
		kind := api.TermKind(k)
		for n := range 5 {
			fact := kids(kind, x, y, x, y)
			fact.Kids = fact.Kids[:n]
			for _, fact := range []api.Term{fact, laden(fact)} {
				facts := []api.Term{equals(x, x), fact}
				if kind == api.TermEq && n == 2 {
					goes(t, facts, x, y, 1)
					goes(t, facts, y, x, 1)
					continue
				}
				lost(t, facts, x, y)
				goes(t, facts, x, x)
			}
		}
	}
	// What stands within a fact is none.
	for _, fact := range []api.Term{and(equals(x, y)), not(equals(x, y)), not(not(equals(x, y))), or(equals(x, y)), equals(equals(x, y), yes())} {
		lost(t, []api.Term{fact}, x, y)
	}
	goes(t, []api.Term{equals(equals(x, y), yes())}, equals(x, y), yes(), 0)
}

// Functions of what there is a path between have none for that.
func TestNoPathGoesThroughFunctions(t *testing.T) {
	s, u := name("s"), name("t")
	facts := []api.Term{equals(s, u), equals(app("FORK.0", s), u)}
	lost(t, facts, app("FORK.0", u), u)
	lost(t, facts, app("tag", s), app("tag", u))
	goes(t, facts, app("FORK.0", s), s, 1, 0)
}

// different are terms no two of which are the same.
func different() []api.Term {
	x, y := name("x"), name("y")
	return []api.Term{
		{}, x, y, name(""), {Kind: api.TermVar, Name: "x", Num: api.Int{Neg: true}}, {Kind: api.TermVar, Name: "x", Num: api.Int{Digits: []uint32{0}}}, {Kind: api.TermVar, Name: "x", Kids: []api.Term{x}}, {Kind: api.TermNum, Name: "x"},
		number(0), number(1), number(-1), number(12), {Kind: api.TermNum, Num: api.Int{Digits: []uint32{1, 0}}}, {Kind: api.TermNum, Num: api.Int{Digits: []uint32{0, 1}}}, {Kind: api.TermNum, Num: api.Int{Digits: []uint32{1, 2}}},
		app("f", x), app("f", y), app("g", x), app("f", x, x), app("f", x, y), app("f", y, x), app("f", x, y, x), app("f"), app("f", app("f", x)), app("f", add(x), y), app("f", x, add(y)), app("f", add(x, y)),
		add(x, y), add(y, x), add(x), add(add(x, y)), add(add(x), y), add(x, y, x), add(add(), add()), add(add(add())), add(), equals(x, y), equals(y, x), atMost(x, y), yes(), kids(255), kids(255, x), laden(x), laden(yes()), name("x 0"), name("1:x"), name("0 "),
	}
}

func TestTermsThatAreTheSame(t *testing.T) {
	c := name("other")
	for i, a := range different() {
		for j, b := range different() {
			if i == j {
				goes(t, nil, a, b)
				goes(t, []api.Term{equals(c, a), equals(b, name("third"))}, c, name("third"), 0, 1)
				continue
			}
			goes(t, []api.Term{equals(a, b)}, a, b, 0)
			goes(t, []api.Term{equals(a, b)}, b, a, 0)
			lost(t, []api.Term{equals(a, a), equals(b, b)}, a, b)
			lost(t, []api.Term{equals(c, a), equals(b, name("third"))}, c, name("third"))
			lost(t, []api.Term{equals(c, a)}, c, b)
		}
	}
}

// firstOf is the first row of places that do takes: a shorter one ahead of a longer one, of as long ones the least.
func firstOf(places, long int, do func(at ...int) bool) ([]int, bool) {
	rows := [][]int{nil}
	for range long + 1 {
		var longer [][]int
		for _, at := range rows {
			if do(at...) {
				return at, true
			}
			for i := range places {
				longer = append(longer, append(slices.Clone(at), i))
			}
		}
		rows = longer
	}
	return nil, false
}

// The path is the first of all rows of places along which cong.Same goes.
func TestPathsAreTheFirstOfAllRows(t *testing.T) {
	r := rand.New(rand.NewSource(1))
	many := map[int]int{}
	for range 1500 {
		sides := []api.Term{name("a"), name("b"), name("c"), app("f", name("a")), number(1)}[:2+r.Intn(4)]
		var facts []api.Term
		for range 1 + r.Intn(5) {
			facts = append(facts, equals(pick(r, sides...), pick(r, sides...)))
		}
		a, b := pick(r, sides...), pick(r, sides...)
		want, wantOK := firstOf(len(facts), len(sides)-1, func(at ...int) bool {
			_, e := cong.Same(facts, a, b, at...)
			return e == api.OK
		})
		got, ok := closing.Path(facts, a, b)
		if ok != wantOK || !slices.Equal(got, want) {
			t.Fatal(got, ok, "is not", want, wantOK, ":", shorts(facts...), short(a), short(b))
		}
		if !ok {
			many[-1]++
		} else {
			many[len(got)]++
		}
	}
	for n, least := range map[int]int{-1: 100, 0: 100, 1: 100, 2: 50, 3: 10, 4: 1} {
		if many[n] < least {
			t.Error(n, many)
		}
	}
}

// What chapter 8 tells of a path is that a and b are the same; and it is the first one in the words, also of many facts.
func TestPathIsAsTheWordsSay(t *testing.T) {
	r := rand.New(rand.NewSource(2))
	longest, none := 0, 0
	for range 1500 {
		var facts []api.Term
		side := func() api.Term { return number(int64(r.Intn(20))) }
		for range r.Intn(30) {
			facts = append(facts, pick(r, equals(side(), side()), equals(side(), side()), equals(side(), side()), not(equals(side(), side()))))
		}
		a, b := side(), side()
		want, wantOK := newGraph(facts...).path(a, b)
		got, ok := closing.Path(facts, a, b)
		if ok != wantOK || !slices.Equal(got, want) {
			t.Fatal(got, ok, "is not", want, wantOK, ":", shorts(facts...), num.Text(a.Num), num.Text(b.Num))
		}
		if told, e := cong.Same(facts, a, b, got...); ok && (e != api.OK || !same(told, equals(a, b))) {
			t.Fatal(e, got)
		}
		if !ok {
			none++
		}
		longest = max(longest, len(got))
	}
	if longest < 7 || none < 200 {
		t.Error(longest, none)
	}
}
