package closing_test

import (
	"slices"
	"testing"

	"whetstone/api"
	"whetstone/closing"
	"whetstone/term"
)

// P10.2

func TestTheDocumentsExampleOfClose(t *testing.T) {
	l, m, n := name("l"), name("m"), name("n")
	w := world{[]api.Data{{Name: "list"}}, []api.Sorted{{Name: "l", Sort: "list"}, {Name: "m", Sort: "list"}, {Name: "n", Sort: "list"}}}
	facts := []api.Term{equals(l, m), equals(m, n), atMost(app("tag", l), number(0)), atMost(app("tag", n), number(0))}
	w.closes(t, facts, []api.Proof{stepSame(l, n, 0, 1), stepApply(4, "tag")}, equals(l, n), equals(app("tag", l), app("tag", n)))
}

func TestFactsOfWhichNoPairIsDue(t *testing.T) {
	s, u, v, o := name("s"), name("t"), name("u"), name("o")
	n, m := name("n"), name("m")
	for _, facts := range [][]api.Term{
		nil, {}, {yes(), no(), name("p"), equals(n, m), equals(s, u)}, {equals(s, u), atMost(app("tag", s), n)},
		// Of one thing; of things between which there is no path; of two names.
		{equals(s, u), atMost(app("tag", s), app("tag", s)), equals(app("tag", s), n)}, {equals(s, v), atMost(app("tag", s), app("tag", u))}, {equals(s, u), atMost(app("tag", s), app("FORK.1", u))}, {equals(s, u), not(equals(app("FORK.0", s), s)), app("FORK.2", u)},
		// The equality is no fact of its own, or is denied.
		{and(equals(s, u)), atMost(app("tag", s), app("tag", u))}, {not(equals(s, u)), atMost(app("tag", s), app("tag", u))}, {not(not(equals(s, u))), or(equals(s, u)), atMost(app("tag", s), app("tag", u))},
		// There is a path between the apps.
		{equals(s, u), equals(app("tag", s), app("tag", u))}, {equals(s, u), equals(app("tag", u), n), equals(n, m), equals(m, app("tag", s))}, {equals(s, u), equals(app("FORK.0", s), v), equals(app("FORK.0", u), v)},
		// Of data of two sorts.
		{equals(s, u), atMost(app("tag", s), app("tag", o)), app("FORK.2", s), app("POT.1", o)},
	} {
		trees().closes(t, facts, nil)
	}
}

// A path of one place: that one, whichever way it is gone; what is laid is the function of the fact's own sides.
func TestPathsOfOnePlace(t *testing.T) {
	s, u := name("s"), name("t")
	ts, tu, fs, fu := app("tag", s), app("tag", u), app("FORK.2", s), app("FORK.2", u)
	for _, apps := range [][]api.Term{{atMost(ts, tu)}, {atMost(tu, ts)}, {equals(ts, number(1)), not(equals(tu, number(1)))}} {
		trees().closes(t, append(apps, yes(), equals(s, u)), []api.Proof{stepApply(len(apps)+1, "tag")}, equals(ts, tu))
		trees().closes(t, append(apps, yes(), equals(u, s)), []api.Proof{stepApply(len(apps)+1, "tag")}, equals(tu, ts))
		trees().closes(t, append(apps, equals(u, s), equals(s, u)), []api.Proof{stepApply(len(apps), "tag")}, equals(tu, ts))
	}
	for _, apps := range [][]api.Term{{or(fs, fu)}, {fu, not(fs)}} {
		trees().closes(t, append(apps, equals(s, u)), []api.Proof{stepApply(len(apps), "FORK.2")}, both(fs, fu))
		trees().closes(t, append(apps, equals(u, s)), []api.Proof{stepApply(len(apps), "FORK.2")}, both(fu, fs))
	}
	// With what an edge has beside, nothing else is told.
	trees().closes(t, []api.Term{laden(equals(u, s)), atMost(ts, tu)}, []api.Proof{stepApply(0, "tag")}, equals(tu, ts))
}

// Else the equality is laid ahead, from the earlier app's to the later one's.
func TestPathsOfMorePlaces(t *testing.T) {
	s, u, v, x := name("s"), name("t"), name("u"), name("v")
	ts, tv, tx := app("tag", s), app("tag", v), app("tag", x)
	chain := []api.Term{equals(u, s), equals(u, v), equals(x, v)}
	trees().closes(t, append(chain, atMost(ts, tv)), []api.Proof{stepSame(s, v, 0, 1), stepApply(4, "tag")}, equals(s, v), equals(ts, tv))
	trees().closes(t, append(chain, atMost(tv, ts)), []api.Proof{stepSame(v, s, 1, 0), stepApply(4, "tag")}, equals(v, s), equals(tv, ts))
	trees().closes(t, append(chain, atMost(ts, tx)), []api.Proof{stepSame(s, x, 0, 1, 2), stepApply(4, "tag")}, equals(s, x), equals(ts, tx))
	trees().closes(t, append(chain, app("FORK.2", x), app("FORK.2", s)), []api.Proof{stepSame(x, s, 2, 1, 0), stepApply(5, "FORK.2")}, equals(x, s), both(app("FORK.2", x), app("FORK.2", s)))
	// What was laid is an edge for those behind: for one of the same, and on the way to others.
	trees().closes(t, append(chain, atMost(ts, tv), app("FORK.2", v), app("FORK.2", s)),
		[]api.Proof{stepSame(s, v, 0, 1), stepApply(6, "tag"), stepApply(6, "FORK.2")},
		equals(s, v), equals(ts, tv), both(app("FORK.2", s), app("FORK.2", v)))
	trees().closes(t, append(chain, atMost(ts, tv), equals(tx, number(0))),
		[]api.Proof{stepSame(s, v, 0, 1), stepApply(5, "tag"), stepSame(s, x, 5, 2), stepApply(7, "tag")},
		equals(s, v), equals(ts, tv), equals(s, x), equals(ts, tx))
}

// The first pair: of the first app, of these of the first second one; looked for from the first one on each time.
func TestWhichPairIsTheFirst(t *testing.T) {
	s, u, v, x := name("s"), name("t"), name("u"), name("v")
	of := func(f string, a, b api.Term) api.Term { return not(equals(app(f, a), app(f, b))) }
	// Of three of one class the first one with each other one; these two are the same then.
	three := []api.Term{equals(s, u), equals(u, v), equals(s, v), atMost(app("tag", v), app("tag", s)), atMost(app("tag", u), app("tag", s))}
	trees().closes(t, three, []api.Proof{stepApply(2, "tag"), stepApply(1, "tag")}, equals(app("tag", s), app("tag", v)), equals(app("tag", u), app("tag", v)))
	// Not the second one counts ahead, nor the name, nor the place of the equality.
	facts := []api.Term{equals(v, x), equals(s, u), of("FORK.0", s, v), of("FORK.3", v, x), of("FORK.0", u, x)}
	trees().closes(t, facts, []api.Proof{stepApply(1, "FORK.0"), stepApply(0, "FORK.0"), stepApply(0, "FORK.3")},
		equals(app("FORK.0", s), app("FORK.0", u)), equals(app("FORK.0", v), app("FORK.0", x)), equals(app("FORK.3", v), app("FORK.3", x)))
	// One that is due only by what was laid comes ahead of those that were due before.
	a, b := app("FORK.0", s), app("FORK.0", u)
	facts = []api.Term{equals(v, x), equals(s, u), atMost(app("tag", a), app("tag", b)), atMost(app("FORK.1", v), app("FORK.1", x))}
	trees().closes(t, facts, []api.Proof{stepApply(1, "FORK.0"), stepApply(4, "tag"), stepApply(0, "FORK.1")},
		equals(a, b), equals(app("tag", a), app("tag", b)), equals(app("FORK.1", v), app("FORK.1", x)))
	facts = []api.Term{equals(v, x), equals(s, u), equals(app("tag", v), app("tag", app("POT.0", app("FORK.3", u)))), of("FORK.0", v, x), of("POT.0", app("FORK.3", s), name("o")), equals(app("tag", x), number(0)), equals(app("tag", app("POT.0", app("FORK.3", s))), number(1))}
	po, pu := app("FORK.3", s), app("FORK.3", u)
	trees().closes(t, facts, []api.Proof{stepApply(0, "tag"), stepApply(1, "FORK.3"), stepApply(8, "POT.0"), stepApply(9, "tag"), stepApply(0, "FORK.0")},
		equals(app("tag", v), app("tag", x)), equals(po, pu), equals(app("POT.0", po), app("POT.0", pu)), equals(app("tag", app("POT.0", po)), app("tag", app("POT.0", pu))), equals(app("FORK.0", v), app("FORK.0", x)))
}

// Each pair of functions to bool is taken once, also where others of the class were.
func TestPairsOfTruths(t *testing.T) {
	s, u, v := name("s"), name("t"), name("u")
	p, q, o := app("FORK.2", s), app("FORK.2", u), app("FORK.2", v)
	facts := []api.Term{equals(s, u), equals(u, v), o, q, p, not(o)}
	trees().closes(t, facts, []api.Proof{stepApply(1, "FORK.2"), stepSame(v, s, 1, 0), stepApply(7, "FORK.2"), stepApply(0, "FORK.2")},
		both(q, o), equals(v, s), both(o, p), both(p, q))
	// What says already that they are the same is not asked.
	trees().closes(t, []api.Term{equals(s, u), iff(p, q), both(p, q)}, []api.Proof{stepApply(0, "FORK.2")}, both(p, q))
	trees().closes(t, []api.Term{equals(s, s), p, p}, nil)
}

// The apps are those of the facts as they were given: what is laid brings no others.
func TestAppsAreThoseThatWereGiven(t *testing.T) {
	s, u := name("s"), name("t")
	p, q := laden(app("FORK.2", s)), laden(app("FORK.2", u))
	facts := []api.Term{equals(s, u), p, q}
	trees().closes(t, facts, []api.Proof{stepApply(0, "FORK.2")}, both(app("FORK.2", s), app("FORK.2", u)))
	// One beside which stands what its kind does not name is another one.
	facts = []api.Term{equals(s, u), p, app("FORK.2", s), q}
	trees().closes(t, facts, []api.Proof{stepApply(0, "FORK.2"), stepApply(0, "FORK.2")}, both(app("FORK.2", s), app("FORK.2", u)), both(app("FORK.2", s), app("FORK.2", u)))
}

// Of functions to numbers and to data, beside which stands what their kind does not name, it is never told that they
// are the same: their pair is due for ever.
func TestAppsWithMoreThanTheirKindNames(t *testing.T) {
	s, u, n := name("s"), name("t"), name("n")
	for _, f := range []string{"tag", "FORK.1"} {
		heavy := laden(app(f, s))
		trees().refuses(t, api.ErrGrown, equals(s, u), atMost(heavy, app(f, u)))
		trees().refuses(t, api.ErrGrown, equals(s, u), atMost(app(f, u), heavy))
		trees().refuses(t, api.ErrGrown, equals(s, name("u")), equals(name("u"), u), atMost(heavy, n), equals(app(f, u), n))
		// Unless there is a path between them, or they are of one thing.
		trees().closes(t, []api.Term{equals(s, u), equals(heavy, app(f, u))}, nil)
		trees().closes(t, []api.Term{equals(s, u), equals(heavy, n), equals(n, app(f, u))}, nil)
		trees().closes(t, []api.Term{equals(s, u), atMost(heavy, app(f, s))}, nil)
		trees().closes(t, []api.Term{equals(s, u), equals(heavy, app(f, u)), atMost(app(f, s), n)}, []api.Proof{stepApply(0, f)}, equals(app(f, s), app(f, u)))
	}
	// What stands beside within what they are of is told on.
	a, b := laden(s), laden(app("FORK.0", u))
	trees().closes(t, []api.Term{equals(a, b), atMost(app("tag", a), app("tag", b))}, []api.Proof{stepApply(0, "tag")}, equals(app("tag", a), app("tag", b)))
}

// The sorts are those of datas, and of the last one of a name in the scope.
func TestSortsOfFacts(t *testing.T) {
	w := odds()
	s, u, e, d := name("s"), name("turned"), name("e"), name("d")
	w.closes(t, []api.Term{equals(s, u), atMost(app("FORK.1", s), app("FORK.1", u))}, []api.Proof{stepApply(0, "FORK.1")}, equals(app("FORK.1", s), app("FORK.1", u)))
	w.closes(t, []api.Term{equals(s, u), app("LATE.0", u), app("LATE.0", s)}, []api.Proof{stepApply(0, "LATE.0")}, both(app("LATE.0", s), app("LATE.0", u)))
	w.closes(t, []api.Term{equals(e, d), equals(app("E.1", e), d), app("E.2", e), app("E.2", d), atMost(app("E.0", app("E.1", e)), app("E.0", d))},
		[]api.Proof{stepApply(0, "E.2"), stepApply(1, "E.0")}, both(app("E.2", e), app("E.2", d)), equals(app("E.0", app("E.1", e)), app("E.0", d)))
	w.closes(t, []api.Term{equals(e, d), app(".0", d), app(".0", e)}, []api.Proof{stepApply(0, ".0")}, both(app(".0", e), app(".0", d)))
	w.closes(t, []api.Term{equals(name("o"), name("o")), equals(app("ODD.1", name("o")), name("late"))}, nil)
	w.refuses(t, api.ErrSort, equals(name("late"), s))
	w.refuses(t, api.ErrSort, equals(app("ODD.0", name("o")), app("ODD.0", name("o"))))
	w.refuses(t, api.ErrSort, app("INT.0", name("n")))
	w.refuses(t, api.ErrSort, equals(name("odd"), name("odd")))
}

// term.Sort's error, ErrSort: fact by fact.
func TestWrongFacts(t *testing.T) {
	s, n, p := name("s"), name("n"), name("p")
	for _, x := range []struct {
		bad api.Term
		e   api.Errno
	}{
		{n, api.ErrSort}, {s, api.ErrSort}, {number(3), api.ErrSort}, {app("tag", s), api.ErrSort}, {add(), api.ErrSort}, {app("FORK.0", s), api.ErrSort},
		{name("none"), api.ErrName}, {name(""), api.ErrName}, {not(name("none")), api.ErrName}, {equals(s), api.ErrMany}, {app("tag"), api.ErrMany}, {kids(api.TermTrue, p), api.ErrMany},
		{api.Term{}, api.ErrSort}, {kids(noKind), api.ErrSort}, {kids(255, p), api.ErrSort}, {kids(api.TermKappa), api.ErrSort}, {app("none", s), api.ErrSort}, {app("FORK.4", s), api.ErrSort}, {app("POT.1", s), api.ErrSort}, {equals(p, p), api.ErrSort}, {equals(s, n), api.ErrSort}, {equals(s, name("o")), api.ErrSort}, {and(n), api.ErrSort},
		{atMost(api.Term{Kind: api.TermNum, Num: api.Int{Neg: true}}, n), api.ErrSort},
	} {
		good := []api.Term{equals(s, name("t")), app("FORK.2", s), app("FORK.2", name("t"))}
		trees().refuses(t, x.e, x.bad)
		for i := range len(good) + 1 {
			trees().refuses(t, x.e, slices.Insert(slices.Clone(good), i, x.bad)...)
		}
		for _, other := range []api.Term{n, name("none"), equals(s), kids(noKind)} {
			trees().refuses(t, x.e, yes(), x.bad, other)
		}
	}
	// Ahead of what is too great.
	trees().refuses(t, api.ErrName, equals(s, name("t")), atMost(app("tag", s), app("tag", name("t"))), wide(api.MaxSize), name("none"))
	trees().refuses(t, api.ErrSort, equals(s, name("t")), atMost(app("tag", s), app("tag", name("t"))), wide(api.MaxSize), n)
	for _, e := range []struct {
		w world
		e api.Errno
	}{{world{}, api.ErrName}, {world{trees().datas, nil}, api.ErrName}, {world{nil, trees().scope}, api.ErrSort}, {world{trees().datas[1:], trees().scope}, api.ErrSort}} {
		e.w.refuses(t, e.e, equals(s, s))
		e.w.closes(t, []api.Term{yes(), atMost(number(1), number(2))}, nil)
	}
}

// ErrGrown, if all facts have more than 65536 parts behind a pair.
func TestFactsThatGrow(t *testing.T) {
	s, u, v := name("s"), name("t"), name("u")
	ts, tu, tv := app("tag", s), app("tag", u), app("tag", v)
	for _, x := range []struct {
		facts []api.Term
		steps []api.Proof
		laid  []api.Term
	}{
		{[]api.Term{equals(s, u), atMost(ts, tu)}, []api.Proof{stepApply(0, "tag")}, []api.Term{equals(ts, tu)}},
		{[]api.Term{equals(s, u), equals(u, v), atMost(ts, tv)}, []api.Proof{stepSame(s, v, 0, 1), stepApply(4, "tag")}, []api.Term{equals(s, v), equals(ts, tv)}},
		{[]api.Term{equals(s, u), app("FORK.2", s), app("FORK.2", u)}, []api.Proof{stepApply(0, "FORK.2")}, []api.Term{both(app("FORK.2", s), app("FORK.2", u))}},
		{[]api.Term{equals(s, u), equals(u, v), atMost(ts, tu), atMost(tu, tv)}, []api.Proof{stepApply(0, "tag"), stepSame(s, v, 0, 1), stepApply(6, "tag")}, []api.Term{equals(ts, tu), equals(s, v), equals(ts, tv)}},
	} {
		room := api.MaxSize - term.Size(x.facts...) - term.Size(x.laid...)
		for _, more := range []int{-1, 0} {
			trees().closes(t, append(x.facts, wide(room+more)), x.steps, x.laid...)
		}
		for _, more := range []int{1, 2, 5, api.MaxSize} {
			trees().refuses(t, api.ErrGrown, append(x.facts, wide(room+more))...)
		}
		// Many facts, that each are small.
		small := slices.Repeat([]api.Term{yes()}, room+1)
		steps, all, e := closing.Close(trees().datas, trees().scope, append(x.facts, small[1:]...)...)
		if e != api.OK || len(steps) != len(x.steps) || !slices.EqualFunc(all[len(x.facts)+room:], x.laid, same) {
			t.Error(e, brief(steps...))
		}
		trees().refuses(t, api.ErrGrown, append(x.facts, small...)...)
	}
	// Where no pair is taken nothing grows.
	for _, size := range []int{api.MaxSize - 8, api.MaxSize, 2 * api.MaxSize} {
		trees().closes(t, []api.Term{equals(s, u), atMost(ts, tv), wide(size)}, nil)
	}
	// Of what the apps are of all parts count.
	a, b := deep(7000, "FORK.0", s), deep(7000, "FORK.0", u)
	trees().refuses(t, api.ErrGrown, equals(a, b), equals(a, b), app("FORK.2", a), app("FORK.2", b))
	trees().closes(t, []api.Term{equals(a, b), app("FORK.2", a), app("FORK.2", b)}, []api.Proof{stepApply(0, "FORK.2")}, both(app("FORK.2", a), app("FORK.2", b)))
	trees().closes(t, []api.Term{equals(a, b), atMost(app("tag", a), app("tag", b))}, []api.Proof{stepApply(0, "tag")}, equals(app("tag", a), app("tag", b)))
}

// A step has no more than its kind's row asks for.
func TestStepsHaveNoOtherParts(t *testing.T) {
	s, u, v := name("s"), name("t"), name("u")
	steps, _, e := closing.Close(trees().datas, trees().scope, equals(s, u), equals(u, v), atMost(app("tag", s), app("tag", v)), laden(app("FORK.2", s)), app("FORK.2", v))
	if e != api.OK || len(steps) != 3 {
		t.Fatal(e, brief(steps...))
	}
	for _, p := range steps {
		if p.Coefs != nil || p.Kids != nil || p.Num.Neg || p.Num.Digits != nil || p.Kind == api.ProofSame && p.Name != "" || p.Kind == api.ProofApply && p.Terms != nil {
			t.Error(p)
		}
	}
}
