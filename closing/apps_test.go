package closing_test

import (
	"math/rand"
	"slices"
	"testing"

	"whetstone/api"
	"whetstone/closing"
	"whetstone/term"
)

// P10.1: apps.

// has fails, unless those are the apps of the facts.
func has(t *testing.T, facts []api.Term, want ...api.Term) {
	t.Helper()
	if got := closing.Apps(facts...); !slices.EqualFunc(got, want, same) {
		t.Fatal(shorts(got...), "is not", shorts(want...))
	}
}

func TestApps(t *testing.T) {
	a, b, c := name("a"), name("b"), name("c")
	fa, fb, ga := app("f", a), app("f", b), app("g", a)
	for _, x := range []struct{ facts, apps []api.Term }{
		{nil, nil}, {[]api.Term{a, yes(), number(3), add(a, b), {}}, nil}, {[]api.Term{fa}, []api.Term{fa}},
		// Fact by fact, from the left, each once, where it comes first.
		{[]api.Term{equals(fa, fb), equals(ga, fa)}, []api.Term{fa, fb, ga}}, {[]api.Term{equals(fb, fa), equals(fa, ga)}, []api.Term{fb, fa, ga}}, {[]api.Term{fa, fa, equals(fa, fa)}, []api.Term{fa}}, {[]api.Term{fb, fa, fb}, []api.Term{fb, fa}},
		// Kids ahead of their term, and of what stands to its right.
		{[]api.Term{app("g", fa)}, []api.Term{fa, app("g", fa)}}, {[]api.Term{equals(app("h", app("g", fa)), fb)}, []api.Term{fa, app("g", fa), app("h", app("g", fa)), fb}}, {[]api.Term{equals(fb, app("g", fa))}, []api.Term{fb, fa, app("g", fa)}},
		{[]api.Term{app("g", fa), fa, ga}, []api.Term{fa, app("g", fa), ga}}, {[]api.Term{ga, app("f", ga), fa}, []api.Term{ga, app("f", ga), fa}},
		// Wherever they stand.
		{[]api.Term{not(and(or(iff(fa, fb)), scale(2, ga))), kids(api.TermKappa, app("k", c)), kids(noKind, app("j", c)), {Kind: api.TermVar, Name: "v", Kids: []api.Term{app("i", c)}}}, []api.Term{fa, fb, ga, app("k", c), app("j", c), app("i", c)}},
		// Whatever they are of, and whatever their name.
		{[]api.Term{app("", yes()), app("tag", number(3)), app("x", equals(a))}, []api.Term{app("", yes()), app("tag", number(3)), app("x", equals(a))}},
	} {
		has(t, x.facts, x.apps...)
	}
}

// With one kid: others are none, but what stands in them counts.
func TestAppsOfOtherThanOneKid(t *testing.T) {
	a, fa, gb := name("a"), app("f", name("a")), app("g", name("b"))
	has(t, []api.Term{app("f")})
	has(t, []api.Term{app("f", a, a), app("f", a, a, a)})
	has(t, []api.Term{app("f", fa, gb)}, fa, gb)
	has(t, []api.Term{app("f", app("f"))}, app("f", app("f")))
	has(t, []api.Term{app("h", app("f", fa, gb))}, fa, gb, app("h", app("f", fa, gb)))
	for k := range 256 {
		kind := api.TermKind(k)
		fact := kids(kind, fa)
		if kind == api.TermApp {
			has(t, []api.Term{fact}, fa, fact)
			continue
		}
		has(t, []api.Term{fact}, fa)
	}
}

// Terms are the same just if their Keys are: also in what the kind does not name.
func TestAppsThatAreTheSame(t *testing.T) {
	var facts, apps []api.Term
	for _, a := range different() {
		b := app("h", a)
		facts = append(facts, b)
		for _, c := range closing.Apps(b) {
			if !slices.ContainsFunc(apps, func(other api.Term) bool { return same(c, other) }) {
				apps = append(apps, c)
			}
		}
	}
	if len(apps) < len(facts) {
		t.Fatal(len(apps), len(facts))
	}
	has(t, facts, apps...)
	has(t, append(facts, facts...), apps...)
	fa := app("f", name("a"))
	has(t, []api.Term{fa, laden(fa), app("f", laden(name("a"))), laden(fa), fa}, fa, laden(fa), app("f", laden(name("a"))))
}

// Of many terms none is taken for another one, whatever they are made of.
func TestManyAppsThatAreNotTheSame(t *testing.T) {
	const many = 60
	x := func(i int) api.Term { return number(int64(i)) }
	var facts []api.Term
	for i := range many {
		facts = append(facts, app("f", x(i)))
	}
	for i := range many {
		for j := range many {
			facts = append(facts, app("f", add(x(i), x(j))), app("f", add(x(i), add(x(j)))), app("f", add(add(x(i), x(j)))))
		}
	}
	for i := range many / 2 {
		for j := range many {
			facts = append(facts, app("f", add(x(i), x(j), x(i))), app("f", add(x(i), x(i), x(j))), app("f", add(x(j), x(1), x(2), x(i))))
		}
	}
	var apps []api.Term
	met := map[string]int{}
	for _, a := range facts {
		if met[term.Key(a)]++; met[term.Key(a)] == 1 {
			apps = append(apps, a)
		}
	}
	if len(apps) < 10000 {
		t.Fatal(len(apps))
	}
	has(t, facts, apps...)
}

func TestAppsAreAsTheWordsSay(t *testing.T) {
	r := rand.New(rand.NewSource(3))
	most := 0
	for range 3000 {
		facts := pick(r, trees, odds)().facts(r, r.Intn(6))
		for i := range facts {
			if r.Intn(9) == 0 {
				facts[i] = laden(facts[i])
			}
			if r.Intn(9) == 0 {
				facts[i] = app(pick(r, "tag", "FORK.0"), facts[i])
			}
		}
		want := reckonApps(facts...)
		has(t, facts, want...)
		most = max(most, len(want))
		for _, a := range want {
			if a.Kind != api.TermApp || len(a.Kids) != 1 || term.Size(a) < 2 {
				t.Fatal(short(a))
			}
		}
	}
	if most < 10 {
		t.Error(most)
	}
}
