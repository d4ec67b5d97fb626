package proof_test

import (
	"slices"
	"strings"
	"testing"

	"whetstone/api"
)

// P9.1: numbers.

func TestTheDocumentsExamples(t *testing.T) {
	x := name("n")
	shows(t, farkas(places(0, 1), "1", "1"), atMost(x, number(3)), atMost(number(5), x))
	second := cut(places(0), times("1"), cut(places(1), times("1"), farkas(places(3, 4), "1", "1")))
	shows(t, second, atMost(scale(2, x), number(1)), atMost(number(1), scale(2, x)))
	// One place turned: not taken any more.
	second.Kids[0].Kids[0].At[0] = 0
	fails(t, second, atMost(scale(2, x), number(1)), atMost(number(1), scale(2, x)))
}

// numbers are such as are of the sort in the trees.
func numbers() []api.Term {
	n, s := name("n"), name("s")
	return []api.Term{n, number(3), number(0), add(n, name("m"), number(-7)), scale(-2, n), scale(0, n), add(), app("tag", s), app("FORK.1", app("FORK.0", s)), laden(n), laden(add(n))}
}

func TestLess(t *testing.T) {
	end := farkas(places(0, 3), "1", "1")
	for _, a := range numbers() {
		for _, n := range []int64{-1000000001, -1000000000, -1, 0, 1, 5, 999999998, 999999999, 1000000000, 4000000000000000000} {
			// The first Kid has a at most n, just that, behind the facts; the second one the next number at most a.
			shows(t, split(a, n, end, falsehood(1)), atMost(number(n+1), a), no())
			fails(t, split(a, n, end, falsehood(1)), atMost(number(n), a), no())
			shows(t, split(a, n, falsehood(1), end), atMost(a, number(n)), no())
			fails(t, split(a, n, falsehood(1), end), atMost(a, number(n+1)), no())
		}
		fails(t, split(a, 0, falsehood(0), falsehood(4)), no())
		fails(t, split(a, 0, falsehood(4), falsehood(0)), no())
	}
	n := name("n")
	// The Kids in their order, and both of them.
	both := []api.Term{atMost(number(6), n), atMost(n, number(5))}
	shows(t, split(n, 5, farkas(places(0, 3), "1", "1"), farkas(places(1, 3), "1", "1")), both...)
	fails(t, split(n, 5, farkas(places(1, 3), "1", "1"), farkas(places(0, 3), "1", "1")), both...)
	for many := range 5 {
		l := slices.Repeat([]api.Proof{falsehood(0)}, many)
		tells(t, trees().obliged(no(), no()), split(n, 5, l...), when(many == 2))
	}
}

func TestLessOfWhatIsNoNumber(t *testing.T) {
	ok := falsehood(0)
	for _, a := range numbers() {
		shows(t, split(a, 0, ok, ok), no())
		for _, bad := range []api.Term{add(a, name("p")), equals(a, a), atMost(a, a), app("tag", a), scale(2), scale(2, a, a), add(a, name("none")), kids(api.TermKappa, a), kids(noKind, a), {Kind: api.TermScale, Num: api.Int{Neg: true}, Kids: []api.Term{a}}} {
			fails(t, split(bad, 0, ok, ok), no())
		}
	}
	for _, bad := range []api.Term{{}, name("p"), name("s"), name("none"), yes(), app("FORK.0", name("s")), app("FORK.2", name("s")), app("FORK.1", name("o")), app("none", name("s")), kids(api.TermNum, number(1)), {Kind: api.TermNum, Num: api.Int{Digits: []uint32{0}}}} {
		fails(t, split(bad, 0, ok, ok), no())
	}
	for _, n := range wrongInts() {
		bad := split(name("n"), 0, ok, ok)
		bad.Num = n
		fails(t, bad, no())
	}
	for _, many := range []int{0, 2} {
		bad := split(name("n"), 0, ok, ok)
		bad.Terms = slices.Repeat(bad.Terms, many)
		fails(t, bad, no())
	}
}

// bounds fails, unless the sum that is cut says of a that it is at most n, just that.
func bounds(t *testing.T, at []int, coefs string, a api.Term, n int64, facts ...api.Term) {
	t.Helper()
	many := len(facts)
	p := cut(at, times(strings.Fields(coefs)...), farkas(places(many, many+2), "1", "1"))
	shows(t, p, slices.Concat(facts, []api.Term{atMost(number(n+1), a)})...)
	fails(t, p, slices.Concat(facts, []api.Term{atMost(number(n), a)})...)
}

func TestCut(t *testing.T) {
	n, m, k := name("n"), name("m"), name("k")
	tag := app("tag", name("s"))
	one := places(0)
	// Divided by the greatest common divisor, and rounded down.
	for at, down := range map[int64]int64{-5: -3, -4: -2, -3: -2, -2: -1, -1: -1, 0: 0, 1: 0, 2: 1, 3: 1, 4: 2} {
		bounds(t, one, "1", n, down, atMost(scale(2, n), number(at)))
		bounds(t, one, "1", scale(-1, n), down, atMost(scale(-2, n), number(at)))
		bounds(t, one, "1", add(n, scale(-3, tag)), down, atMost(add(scale(2, n), scale(-6, tag)), number(at)))
		bounds(t, one, "1", n, down, atMost(n, add(scale(-1, n), number(at))))
		bounds(t, one, "3", n, down, atMost(scale(2, n), number(at)))
		bounds(t, one, "1/2", n, down, atMost(scale(2, n), number(at)))
		bounds(t, one, "1", n, at, atMost(n, number(at)))
		bounds(t, one, "1", add(scale(3, n), scale(2, m)), at, atMost(add(scale(3, n), scale(2, m)), number(at)))
		bounds(t, one, "-1", n, down, equals(number(at), scale(2, n)))
	}
	bounds(t, one, "1", add(scale(2, n), scale(3, m), scale(-5, k)), 3, atMost(add(scale(12, n), scale(18, m), scale(-30, k)), number(23)))
	bounds(t, one, "1/6", n, -1, atMost(scale(6, n), number(-1)))
	bounds(t, one, "5/6", n, 4, atMost(scale(6, n), number(29)))
	bounds(t, one, "1", n, 1, atMost(scale(4000000000000000000, n), number(7999999999999999999)))
	// Sums of more, of which atoms may go.
	bounds(t, places(0, 1), "1 1", n, 0, atMost(add(n, m), number(1)), atMost(n, m))
	bounds(t, places(0, 1), "1/2 1/2", n, 0, atMost(add(n, m), number(1)), atMost(n, m))
	bounds(t, places(1, 0), "1 1", n, 0, atMost(add(n, m), number(1)), atMost(n, m))
	bounds(t, places(0, 1), "1 -1", n, 2, atMost(n, m), equals(number(2), m))
	bounds(t, places(0, 1), "1 0", n, 2, atMost(n, number(2)), atMost(m, number(2)))
	bounds(t, places(0, 0), "1/3 2/3", n, 2, atMost(n, number(2)))
	bounds(t, places(0, 0, 0), "1 1 1", n, 0, atMost(scale(2, n), number(1)))
	bounds(t, places(2, 0, 1), "-1/4 1/4 1/2", n, 1, atMost(scale(4, n), k), atMost(m, number(2)), equals(scale(2, m), k))
}

func TestWhatCanNotBeCut(t *testing.T) {
	n, m := name("n"), name("m")
	facts := []api.Term{atMost(n, number(3)), atMost(scale(2, m), n), equals(n, m), no(), equals(name("s"), name("t")), atMost(n, n), atMost(number(1), number(0)), name("p"), and(atMost(n, m)), not(equals(name("s"), name("t")))}
	try := func(ok bool, at []int, coefs ...string) {
		t.Helper()
		tells(t, trees().obliged(no(), facts...), cut(at, times(coefs...), falsehood(3)), when(ok))
	}
	try(true, places(0), "1")
	try(true, places(0), "2")
	try(true, places(0, 1), "1", "1")
	try(true, places(0, 1), "1/2", "3/2")
	try(true, places(0, 1, 2), "3/4", "1/4", "1/2")
	try(true, places(2), "-1")
	try(true, places(0, 6), "1", "1/7")
	// Not as many Coefs as At; and none of both.
	try(false, places(0))
	try(false, places(0), "1", "1")
	try(false, places(0, 1), "1")
	try(false, places(), "1")
	try(false, places())
	// Coefficients below 0, of what is at most the other one.
	try(false, places(0), "-1")
	try(false, places(0), "-1/2")
	try(false, places(2, 0), "2", "-1")
	try(false, places(6, 0), "-1", "1")
	// Atoms that come broken times.
	try(false, places(0), "1/2")
	try(false, places(0, 1), "1", "1/3")
	try(false, places(1), "1/2")
	try(false, places(0, 1), "1/2", "1")
	// No atoms.
	try(false, places(0), "0")
	try(false, places(5), "1")
	try(false, places(6), "1")
	try(false, places(2, 2), "1", "-1")
	try(false, places(0, 1, 2), "0", "0", "0")
	// Other facts, and such as are not there; however often they are taken.
	for _, at := range []int{3, 4, 7, 8, 9, 10, 11, -1, most, -most - 1} {
		for _, many := range []string{"0", "1", "-1"} {
			try(false, places(0, at), "1", many)
			try(false, places(at, 0), many, "1")
		}
	}
	for _, a := range wrongRatios() {
		fails(t, cut(places(0), []api.Ratio{a}, falsehood(3)), facts...)
		fails(t, cut(places(0, 1), append(times("1"), a), falsehood(3)), facts...)
		fails(t, cut(places(2, 0), append([]api.Ratio{a}, times("1")...), falsehood(3)), facts...)
	}
	for many := range 4 {
		l := slices.Repeat([]api.Proof{falsehood(3)}, many)
		tells(t, trees().obliged(no(), facts...), cut(places(0), times("1"), l...), when(many == 1))
	}
	// What is laid is the one fact, behind the others.
	shows(t, cut(places(0), times("1"), farkas(places(1, 3), "1", "1")), atMost(n, number(3)), atMost(number(4), n))
	fails(t, cut(places(0), times("1"), farkas(places(1, 4), "1", "1")), atMost(n, number(3)), atMost(number(4), n))
}

func TestFarkas(t *testing.T) {
	n, m, tag := name("n"), name("m"), app("tag", name("s"))
	for _, c := range []struct {
		ok    bool
		at    []int
		coefs string
		facts []api.Term
	}{
		// A number above 0.
		{true, places(0), "1", []api.Term{atMost(number(1), number(0))}},
		{true, places(0), "1/1000000000000", []api.Term{atMost(number(-3), number(-4))}},
		{true, places(0, 0), "1/2 0", []api.Term{atMost(number(1), number(0))}},
		{true, places(0), "1", []api.Term{equals(number(1), number(0))}},
		{true, places(0), "-1", []api.Term{equals(number(0), number(1))}},
		{false, places(0), "-1", []api.Term{equals(number(1), number(0))}},
		{false, places(0), "1", []api.Term{equals(number(0), number(1))}},
		{false, places(0), "-1", []api.Term{atMost(number(0), number(1))}},
		{false, places(0), "0", []api.Term{atMost(number(1), number(0))}},
		{false, places(0), "1", []api.Term{atMost(number(0), number(0))}},
		{false, places(0), "1", []api.Term{atMost(number(0), number(1))}},
		{false, places(), "", []api.Term{no()}},
		// Of which all atoms go.
		{true, places(0, 1), "1 1", []api.Term{atMost(n, number(3)), atMost(number(4), n)}},
		{false, places(0, 1), "1 1", []api.Term{atMost(n, number(3)), atMost(number(3), n)}},
		{false, places(0, 1), "1 2", []api.Term{atMost(n, number(3)), atMost(number(4), n)}},
		{false, places(0), "1", []api.Term{atMost(n, number(3)), atMost(number(4), n)}},
		{false, places(0, 1), "1 1", []api.Term{atMost(n, number(3)), atMost(number(4), m)}},
		{true, places(0, 1), "1 2", []api.Term{atMost(scale(2, n), number(3)), atMost(number(4), n)}},
		{true, places(0, 1), "1/2 1", []api.Term{atMost(scale(2, n), number(3)), atMost(number(4), n)}},
		{true, places(0, 1, 2), "1 1 1", []api.Term{atMost(n, m), atMost(m, tag), atMost(add(tag, number(1)), n)}},
		{true, places(2, 0, 1), "2/3 2/3 2/3", []api.Term{atMost(n, m), atMost(m, tag), atMost(add(tag, number(1)), n)}},
		{false, places(0, 1, 2), "1 1 1", []api.Term{atMost(n, m), atMost(m, tag), atMost(tag, n)}},
		{true, places(0, 1), "-1 1", []api.Term{equals(n, number(3)), equals(n, number(2))}},
		{false, places(0, 1), "1 -1", []api.Term{equals(n, number(3)), equals(n, number(2))}},
		{false, places(0, 1), "1 -1", []api.Term{equals(n, number(3)), atMost(n, number(2))}},
		{true, places(0, 1), "-1 1", []api.Term{equals(n, number(3)), atMost(n, number(2))}},
		// Two facts may be one; and one the same as another one.
		{true, places(0, 1, 0), "1/2 1 1/2", []api.Term{atMost(n, number(3)), atMost(number(4), n)}},
		{true, places(0, 1, 2), "1/3 1 2/3", []api.Term{atMost(n, number(3)), atMost(number(4), n), atMost(n, number(3))}},
		{false, places(0, 1, 0), "1 1 1", []api.Term{atMost(n, number(3)), atMost(number(4), n)}},
		// Atoms are known by their keys.
		{false, places(0, 1), "1 1", []api.Term{atMost(laden(n), number(3)), atMost(number(4), n)}},
		{true, places(0, 1), "1 1", []api.Term{atMost(laden(n), number(3)), atMost(number(4), laden(n))}},
		{false, places(0, 1), "1 1", []api.Term{atMost(tag, number(3)), atMost(number(4), app("tag", name("t")))}},
		{true, places(0), "1", []api.Term{atMost(add(n, number(1)), add(scale(2, n), scale(-1, n)))}},
		// Numbers that are great.
		{true, places(0, 1), "1 1", []api.Term{atMost(scale(4000000000000000000, n), number(3999999999999999999)), atMost(number(4000000000000000000), scale(4000000000000000000, n))}},
	} {
		tells(t, trees().obliged(no(), c.facts...), farkas(c.at, strings.Fields(c.coefs)...), when(c.ok))
	}
}

func TestWhatIsNoSum(t *testing.T) {
	n, m, s := name("n"), name("m"), name("s")
	facts := []api.Term{atMost(number(1), number(0)), atMost(n, m), equals(n, m), no(), equals(s, s), name("p"), and(atMost(number(1), number(0))), not(equals(s, s)), or(no())}
	try := func(ok bool, at []int, coefs ...string) {
		t.Helper()
		tells(t, trees().obliged(no(), facts...), farkas(at, coefs...), when(ok))
	}
	try(true, places(0), "1")
	try(true, places(0, 1, 2), "1", "0", "0")
	try(true, places(0, 1, 2), "1", "1", "-1")
	try(false, places(0, 1, 2), "1", "-1", "1")
	try(false, places(0, 0), "2", "-1")
	try(false, places(0))
	try(false, places(), "1")
	try(false, places(0), "1", "1")
	try(false, places(0), "1", "0")
	try(false, places(0, 0), "1")
	for _, at := range []int{3, 4, 5, 6, 7, 8, 9, 10, -1, most, -most - 1} {
		for _, many := range []string{"0", "1", "-1"} {
			try(false, places(0, at), "1", many)
			try(false, places(at, 0), many, "1")
		}
	}
	for _, a := range wrongRatios() {
		for _, at := range []int{0, 1, 2} {
			fails(t, api.Proof{Kind: api.ProofFarkas, At: places(0, at), Coefs: append(times("1"), a)}, facts...)
			fails(t, api.Proof{Kind: api.ProofFarkas, At: places(at, 0), Coefs: append([]api.Ratio{a}, times("1")...)}, facts...)
		}
	}
	// An equality of truths, which only ProofSame lays, is none of numbers; one of numbers is.
	for a, ok := range map[string]bool{"p": false, "s": false, "n": true} {
		p := same(name(a), name(a), nil, farkas(places(0, 10), "1", "5"))
		tells(t, trees().obliged(no(), facts...), p, when(ok))
	}
}

// What was reckoned of a fact is not taken for one that another Kid has in its place.
func TestSumsOfFactsThatStandInOnePlace(t *testing.T) {
	n, m := name("n"), name("m")
	facts := []api.Term{or(atMost(n, number(0)), atMost(m, number(0)), equals(n, m), or(), no()), atMost(number(1), n), atMost(number(1), m), equals(m, number(7)), atMost(n, number(6))}
	first, second, third := farkas(places(6, 1), "1", "1"), farkas(places(6, 2), "1", "1"), farkas(places(6, 3, 4), "-1", "-1", "1")
	shows(t, cases(0, first, second, third, cases(6), falsehood(6)), facts...)
	fails(t, cases(0, first, first, third, cases(6), falsehood(6)), facts...)
	fails(t, cases(0, second, second, third, cases(6), falsehood(6)), facts...)
	fails(t, cases(0, first, second, second, cases(6), falsehood(6)), facts...)
	fails(t, cases(0, first, second, third, third, falsehood(6)), facts...)
	fails(t, cases(0, first, second, third, cases(6), third), facts...)
}

// A sum's number may be broken.
func TestBrokenNumbers(t *testing.T) {
	n := name("n")
	bounds(t, places(0, 1), "1 1/2", n, -1, atMost(n, number(0)), atMost(number(1), number(0)))
	bounds(t, places(0, 1), "1 1/3", n, 1, atMost(n, number(2)), atMost(number(1), number(0)))
	bounds(t, places(0, 1), "2 5/3", n, 1, atMost(n, number(2)), atMost(number(1), number(0)))
	bounds(t, places(0, 1), "2 7/3", n, 0, atMost(n, number(2)), atMost(number(1), number(0)))
	bounds(t, places(0, 1), "1 -1/2", n, 0, atMost(n, number(0)), equals(number(1), number(0)))
	shows(t, farkas(places(0, 1), "1", "1/2"), atMost(number(0), number(0)), atMost(number(1), number(0)))
}
