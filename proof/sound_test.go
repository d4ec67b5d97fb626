package proof_test

import (
	"math/rand"
	"slices"
	"testing"

	"whetstone/api"
	"whetstone/model"
	"whetstone/num"
	"whetstone/proof"
	"whetstone/term"
)

// P9.3

// constructors are those of which a value of that sort may be: the first ones of their names, their data having it.
func (w world) constructors(sort string) []api.Con {
	var met []string
	var l []api.Con
	for _, d := range w.datas {
		for _, c := range d.Cons {
			if d.Name == sort && c.Name != "" && !slices.Contains(met, c.Name) && !slices.Contains(c.Fields, "none") {
				l = append(l, c)
			}
			met = append(met, c.Name)
		}
	}
	return l
}

// value is one of that sort; small, so that values are often the same.
func (w world) value(r *rand.Rand, sort string, size int) api.Value {
	if sort == api.SortInt {
		return api.Value{Kind: api.ValueInt, Num: num.Of(int64(r.Intn(5) - 2))}
	}
	if sort == api.SortBool {
		return api.Value{Kind: api.ValueBool, Truth: r.Intn(2) == 0}
	}
	v := api.Value{Kind: api.ValueData}
	if size <= 0 || r.Intn(6) == 0 {
		return v
	}
	con := pick(r, w.constructors(sort)...)
	v.Name = con.Name
	for _, field := range con.Fields {
		v.Fields = append(v.Fields, w.value(r, field, size-2))
	}
	return v
}

// bounds are values of their sorts for the names of the scope that have one.
func (w world) bounds(t *testing.T, r *rand.Rand) []api.Bound {
	t.Helper()
	var l []api.Bound
	for _, s := range w.scope {
		if sort, e := term.Sort(w.datas, w.scope, name(s.Name)); e == api.OK {
			v := w.value(r, sort, 3)
			if !model.Of(w.datas, sort, v) {
				t.Fatal("not of its sort:", sort, v)
			}
			l = append(l, api.Bound{Name: s.Name, Value: v})
		}
	}
	return l
}

// comes is whether a comes to true there; it has to come to a truth.
func (w world) comes(t *testing.T, bounds []api.Bound, a api.Term) bool {
	t.Helper()
	v, e := model.Eval(w.datas, bounds, a)
	if e != api.OK || v.Kind != api.ValueBool {
		t.Fatal(e, short(a))
	}
	return v.Truth
}

// trueThere is an obligation of hypotheses that come to true there, and of a goal that does or does not.
func (w world) trueThere(t *testing.T, r *rand.Rand, bounds []api.Bound) api.Obligation {
	t.Helper()
	var hyps []api.Term
	for range 1 + r.Intn(3) {
		a := w.formula(r, r.Intn(3))
		if !w.comes(t, bounds, a) {
			a = not(a)
		}
		hyps = append(hyps, a)
	}
	goal := w.formula(r, 1)
	if r.Intn(4) > 0 {
		goal = w.follows(r, pick(r, hyps...))
	}
	return w.obliged(goal, hyps...)
}

func TestWhatIsShownComesToTrueWhereAllHypothesesDo(t *testing.T) {
	t.Parallel()
	r := rand.New(rand.NewSource(6))
	for _, w := range []world{trees(), odds()} {
		shown, denied, spoilt := 0, 0, 0
		for range 1500 {
			bounds := w.bounds(t, r)
			o := w.trueThere(t, r, bounds)
			goal := w.comes(t, bounds, o.Goal)
			p, _ := w.prove(r, o, 5)
			for i := range 6 {
				if proof.Check(w.datas, o, p) == api.OK {
					if !goal {
						t.Fatal("shown, and not true:", shorts(o.Hyps...), short(o.Goal), brief(p))
					}
					shown++
					if i > 0 {
						spoilt++
					}
				} else if !goal {
					denied++
				}
				p = spoil(r, p)
			}
		}
		if shown < 800 || denied < 1000 || spoilt < 200 {
			t.Error(shown, denied, spoilt)
		}
	}
}

// An obligation that does not hold somewhere has no certificate: those that are near to one are tried.
func TestWhatDoesNotFollowIsNotShown(t *testing.T) {
	n, m, s, u := name("n"), name("m"), name("s"), name("t")
	r := rand.New(rand.NewSource(7))
	for _, o := range []api.Obligation{
		trees().obliged(atMost(n, number(2)), atMost(n, number(3))), trees().obliged(atMost(n, number(0)), atMost(scale(2, n), number(2))), trees().obliged(no(), atMost(scale(2, n), m), atMost(m, scale(2, n))),
		trees().obliged(equals(s, u), equals(app("tag", s), app("tag", u))), trees().obliged(app("FORK.2", s), equals(s, u), or(app("FORK.2", u), name("p"))), trees().obliged(name("p"), or(name("p"), name("q"))),
		trees().obliged(equals(n, m), atMost(n, m)), trees().obliged(no(), not(equals(s, u)), equals(app("FORK.0", s), app("FORK.0", u))), trees().obliged(no()),
	} {
		for range 60 {
			p, ok := trees().prove(r, o, 5)
			if ok {
				t.Fatal("shown:", shorts(o.Hyps...), short(o.Goal), brief(p))
			}
			for range 10 {
				if e := proof.Check(trees().datas, o, p); e != api.ErrProof {
					t.Fatal(e, shorts(o.Hyps...), short(o.Goal), brief(p))
				}
				p = spoil(r, p)
			}
		}
	}
}
