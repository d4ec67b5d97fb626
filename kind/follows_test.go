package kind_test

import (
	"math/rand"
	"slices"
	"testing"

	"whetstone/api"
	"whetstone/kind"
	"whetstone/term"
)

// P14.6

func TestWellFormedInAGreaterScope(t *testing.T) {
	r := rand.New(rand.NewSource(7))
	formed := 0
	for range 20000 {
		a, scope := someType(r, r.Intn(5)), row()
		e := kind.WellFormed(world(), kappas(), scope, a)
		for range 1 + r.Intn(4) {
			// Names of sorts that there are, and of others: none of them stands in the type.
			other := api.Sorted{Name: pick(r, "other", "o2", "N", " n", "tag", "cons.0"), Sort: pick(r, "int", "bool", "list", "gone")}
			scope = slices.Insert(scope, r.Intn(len(scope)+1), other)
		}
		if got := kind.WellFormed(world(), kappas(), scope, a); got != e {
			t.Fatal(shown(a), "is", got, "in a greater scope, and not", e)
		}
		if e == api.OK && len(a.Params) > 0 {
			formed++
		}
	}
	if formed < 500 {
		t.Error(formed)
	}
}

func TestSubstByTheNamesThemselves(t *testing.T) {
	r := rand.New(rand.NewSource(8))
	for range 3000 {
		a := someType(r, r.Intn(5))
		var names []string
		var terms []api.Term
		for _, n := range append(freeIn(a), "n", "x", "v", "none") {
			if r.Intn(3) > 0 {
				names, terms = append(names, n), append(terms, name(n))
			}
		}
		substs(t, a, names, terms, a, api.OK)
	}
}

func TestWithTwiceIsWithOnce(t *testing.T) {
	r := rand.New(rand.NewSource(9))
	for range 5000 {
		a, of := someType(r, r.Intn(3)), someFormula(r, r.Intn(12))
		once := kind.With(a, of)
		if twice := kind.With(once, of); !kind.Same(once, twice) || !sameType(once, twice) {
			t.Fatal(shown(a), "with", text(of), "is", shown(once), "and with that again", shown(twice))
		}
	}
}

// A type that is well formed is so also with names put for its scope's, if these are of the same sorts, and none is taken in.
func TestWellFormedWithOtherNames(t *testing.T) {
	r := rand.New(rand.NewSource(10))
	formed := 0
	for range 10000 {
		a := someType(r, r.Intn(4))
		scope := []api.Sorted{{Name: "n", Sort: "int"}, {Name: "late", Sort: "int"}, {Name: "p", Sort: "bool"}, {Name: "l", Sort: "list"}}
		if kind.WellFormed(world(), kappas(), scope, a) != api.OK {
			continue
		}
		names := []string{"n", "late", "p", "l"}
		b, e := kind.Subst(a, names, []api.Term{add(name("a"), number(1)), number(7), not(name("b")), app("cons.1", name("c"))})
		if e != api.OK {
			t.Fatal(shown(a), e)
		}
		// A kappa's body may have names of its own, so the old ones stay.
		scope = append(scope, api.Sorted{Name: "a", Sort: "int"}, api.Sorted{Name: "b", Sort: "bool"}, api.Sorted{Name: "c", Sort: "list"})
		if got := kind.WellFormed(world(), kappas(), scope, b); got != api.OK || !kind.Alike(a, b) {
			t.Fatal(shown(a), "is, with other names,", got, shown(b))
		}
		if !kind.Same(a, b) && a.Fun {
			formed++
		}
	}
	if formed < 100 {
		t.Error(formed)
	}
}

// What a base type that is well formed says of a term of its sort is a truth.
func TestAtOfWhatIsWellFormedIsATruth(t *testing.T) {
	r := rand.New(rand.NewSource(11))
	terms := map[string]api.Term{"int": add(name("n"), number(2)), "bool": not(name("p")), "list": app("cons.1", name("l")), "box": name("v"), "": name("e")}
	scope := append(row(), api.Sorted{Name: "e", Sort: ""})
	formed := 0
	for range 5000 {
		a := someType(r, 1)
		of, known := terms[a.Sort]
		if !known || kind.WellFormed(world(), kappas(), scope, a) != api.OK {
			continue
		}
		refine, e := kind.At(kappas(), a, of)
		sort, sortE := term.Sort(world(), scope, refine)
		if e != api.OK || sortE != api.OK || sort != "bool" {
			t.Fatal(shown(a), e, sortE, sort)
		}
		formed++
	}
	if formed < 1000 {
		t.Error(formed)
	}
}
