package solver_test

import (
	"cmp"
	"math/big"
	"math/rand"
	"slices"
	"testing"

	"whetstone/api"
	"whetstone/num"
	"whetstone/solver"
	"whetstone/term"
)

// P12.2

// says is what a model says of an atom.
func says(t api.Term, n int64, truth bool, class int) api.Atomic {
	return api.Atomic{Key: term.Key(t), Num: num.Of(n), Truth: truth, Class: class}
}

// modelOf has its atoms in their order.
func modelOf(l ...api.Atomic) []api.Atomic {
	slices.SortFunc(l, func(a, b api.Atomic) int { return cmp.Compare(a.Key, b.Key) })
	return l
}

func holds(t *testing.T, want bool, model []api.Atomic, f api.Term) {
	t.Helper()
	is, e := solver.Holds(datas(), scope(), model, f)
	if e != api.OK || is != want {
		t.Errorf("%v, %v is not %v: %s", is, e, want, text(f))
	}
}

func refuses(t *testing.T, want api.Errno, model []api.Atomic, f api.Term) {
	t.Helper()
	if is, e := solver.Holds(datas(), scope(), model, f); e != want || is {
		t.Errorf("%v, %v is not %v: %s", is, e, want, text(f))
	}
}

func TestHoldsOfEachKind(t *testing.T) {
	x, y, p, q, k, l, m := v("x"), v("y"), v("p"), v("q"), v("k"), v("l"), v("m")
	model := modelOf(says(x, 3, false, 0), says(p, 0, true, 0), says(k, 0, false, 7), says(l, 0, false, 7), says(app("tag", m), 1, false, 0), says(app("cons.1", k), 0, false, -2), says(app("cons.2", k), 0, true, 0), says(v("t"), 0, false, 7))
	yes, no := node(api.TermTrue), node(api.TermFalse)
	for _, f := range []api.Term{
		yes, p, not(q), not(no), and(), and(p, yes), or(q, p), iff(p, yes), iff(q, no), app("cons.2", k), not(app("cons.2", l)),
		eq(x, n(3)), le(x, n(3)), le(n(-3), scale(-1, x)), eq(y, n(0)), eq(sum(x, scale(2, x), y, n(1)), n(10)), eq(sum(), n(0)), le(scale(-5, x), n(-15)),
		eq(k, l), eq(k, k), not(eq(k, m)), eq(m, m), not(eq(m, v("n"))), not(eq(app("cons.1", k), k)), eq(app("cons.1", k), app("cons.1", k)), not(eq(app("cons.1", k), app("cons.1", l))), eq(app("cons.1", l), app("cons.1", l)),
		eq(app("tag", m), n(1)), eq(app("tag", k), n(0)), le(app("tag", v("u")), app("tag", m)), not(eq(v("t"), v("u"))), not(eq(v("t"), app("node.0", v("t")))),
		iff(iff(p, q), and(p, q)), or(and(q), and(p, or(not(q)))),
	} {
		holds(t, true, model, f)
		holds(t, false, model, not(f))
		holds(t, true, model, or(no, and(f, f)))
		holds(t, false, model, iff(f, no))
	}
}

// Of an atom that is not there, and of what is said of it that is of another sort.
func TestHoldsOfWhatIsNotThere(t *testing.T) {
	x, p, l := v("x"), v("p"), v("l")
	for _, model := range [][]api.Atomic{nil, {}, modelOf(says(x, 0, true, 9), says(p, 8, false, 9), says(v("beside"), 1, true, 1), says(app("none.7", v("x")), 1, true, 1)), {{Key: term.Key(x), Sort: "bool", Truth: true}}} {
		holds(t, true, model, eq(x, n(0)))
		holds(t, true, model, not(p))
		holds(t, true, model, eq(l, l))
		holds(t, false, model, eq(l, v("k")))
		holds(t, false, model, eq(app("cons.1", l), l))
	}
	// A class of its own is no class that is told, and so is 0.
	for _, class := range []int{0, 1, -1, 1 << 62} {
		holds(t, false, []api.Atomic{says(l, 0, false, class)}, eq(l, v("k")))
		holds(t, true, modelOf(says(l, 0, false, class), says(v("k"), 5, true, class)), eq(l, v("k")))
	}
	// What an atom is of comes not in: its own Key is asked.
	model := modelOf(says(l, 0, false, 1), says(v("k"), 0, false, 1), says(app("tag", l), 4, false, 0))
	holds(t, false, model, eq(app("tag", l), app("tag", v("k"))))
	unclean := x
	unclean.Num = num.Of(2)
	holds(t, false, []api.Atomic{says(x, 1, false, 0)}, eq(x, unclean))
	holds(t, true, modelOf(says(x, 1, false, 0), says(unclean, 1, false, 0)), eq(x, unclean))
}

func TestHoldsErrorsInTheirOrder(t *testing.T) {
	good := []api.Atomic{says(v("x"), 1, false, 0)}
	x, p := says(v("x"), 1, false, 0), says(v("p"), 0, true, 0)
	models := [][]api.Atomic{
		{x, x}, {p, x, x}, {p, p}, {x, p}, {{Key: ""}}, {{Key: "x"}}, {x, {Key: "x"}}, {says(n(1), 0, false, 0)}, {says(sum(v("x")), 0, false, 0)}, {says(node(api.TermTrue), 0, true, 0)}, {says(eq(v("x"), v("x")), 0, true, 0)}, {says(api.Term{}, 0, true, 0)}, {{Key: term.Key(v("x")) + " "}},
		{{Key: term.Key(v("x")), Num: api.Int{Neg: true}}}, {{Key: term.Key(v("x")), Num: api.Int{Digits: []uint32{0}}}}, {{Key: term.Key(v("x")), Num: api.Int{Digits: []uint32{api.Base}}}}, {{Key: term.Key(v("p")), Sort: "bool", Num: api.Int{Digits: []uint32{1, 0}}}},
	}
	if term.Key(v("x")) < term.Key(v("p")) {
		t.Fatal("the Keys of x and p rise otherwise")
	}
	for _, model := range models {
		refuses(t, api.ErrShape, model, v("p"))
		refuses(t, api.ErrShape, model, node(api.TermTrue))
		refuses(t, api.ErrSort, model, v("x"))
		refuses(t, api.ErrSort, model, v("l"))
		refuses(t, api.ErrName, model, v("nobody"))
		refuses(t, api.ErrMany, model, not(node(api.TermIff, v("nobody"))))
	}
	for _, model := range append(models, nil, good) {
		refuses(t, api.ErrSort, model, n(1))
		refuses(t, api.ErrSort, model, le(v("p"), v("x")))
		refuses(t, api.ErrSort, model, eq(v("p"), v("q")))
		refuses(t, api.ErrSort, model, node(api.TermKappa))
		refuses(t, api.ErrName, model, and(v("nobody"), n(1)))
		refuses(t, api.ErrSort, model, and(and(n(1)), v("nobody")))
	}
	holds(t, true, good, le(n(1), v("x")))
}

// reckoned is what a truth comes to, in the document's words.
func reckoned(model []api.Atomic, f api.Term) bool {
	said := map[string]api.Atomic{}
	for _, a := range model {
		said[a.Key] = a
	}
	var number func(t api.Term) *big.Int
	number = func(t api.Term) *big.Int {
		of := func(a api.Int) *big.Int {
			n, _ := new(big.Int).SetString(num.Text(a), 10)
			return n
		}
		switch t.Kind {
		case api.TermNum:
			return of(t.Num)
		case api.TermScale:
			return new(big.Int).Mul(of(t.Num), number(t.Kids[0]))
		case api.TermAdd:
			all := new(big.Int)
			for _, kid := range t.Kids {
				all.Add(all, number(kid))
			}
			return all
		}
		return of(said[term.Key(t)].Num)
	}
	sort := func(t api.Term) string {
		s, _ := term.Sort(datas(), scope(), t)
		return s
	}
	var truth func(t api.Term) bool
	truth = func(t api.Term) bool {
		switch t.Kind {
		case api.TermTrue:
			return true
		case api.TermFalse:
			return false
		case api.TermLe:
			return number(t.Kids[0]).Cmp(number(t.Kids[1])) <= 0
		case api.TermEq:
			if sort(t.Kids[0]) == "int" {
				return number(t.Kids[0]).Cmp(number(t.Kids[1])) == 0
			}
			a, b := term.Key(t.Kids[0]), term.Key(t.Kids[1])
			c, met := said[a]
			d, met2 := said[b]
			return a == b || met && met2 && c.Class == d.Class
		case api.TermNot:
			return !truth(t.Kids[0])
		case api.TermIff:
			return truth(t.Kids[0]) == truth(t.Kids[1])
		case api.TermAnd:
			return !slices.ContainsFunc(t.Kids, func(kid api.Term) bool { return !truth(kid) })
		case api.TermOr:
			return slices.ContainsFunc(t.Kids, truth)
		}
		return said[term.Key(t)].Truth
	}
	return truth(f)
}

func TestHoldsAgainstTheWords(t *testing.T) {
	count := map[bool]int{}
	for i := range 3000 {
		g := chance{rand.New(rand.NewSource(int64(i)))}
		f := g.formula(5, i%4 > 0)
		var model []api.Atomic
		met := map[string]int{}
		for range g.Intn(20) {
			a := pick(g.Rand, v("x"), v("y"), v("z"), v("p"), v("q"), v("r"), g.list(2), g.list(2), g.list(2), app("tag", g.list(1)), app("cons.0", g.list(1)), app("cons.2", g.list(1)))
			if key := term.Key(a); met[key] == 0 {
				met[key] = 1
				model = append(model, says(a, g.Int63n(9)-4, g.Intn(2) == 0, g.Intn(3)))
			}
		}
		model = modelOf(model...)
		want := reckoned(model, f)
		holds(t, want, model, f)
		count[want]++
	}
	if count[true] < 500 || count[false] < 500 {
		t.Error(count)
	}
}
