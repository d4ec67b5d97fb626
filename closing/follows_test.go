package closing_test

import (
	"math/rand"
	"slices"
	"testing"

	"whetstone/api"
	"whetstone/closing"
	"whetstone/cong"
	"whetstone/model"
	"whetstone/norm"
	"whetstone/num"
	"whetstone/proof"
	"whetstone/term"
)

// P10.3

// close is what Close tells of the facts, which have to be truths, and not to grow too great.
func (w world) close(t *testing.T, facts ...api.Term) ([]api.Proof, []api.Term) {
	t.Helper()
	steps, all, e := closing.Close(w.datas, w.scope, facts...)
	if e != api.OK {
		t.Fatal(e, shorts(facts...))
	}
	return steps, all
}

// Each step tells what chapter 8's calls tell of the facts ahead of it.
func TestEachStepTellsWhatCongTells(t *testing.T) {
	t.Parallel()
	r := rand.New(rand.NewSource(7))
	many := 0
	for range 300 {
		w := pick(r, trees, odds)()
		facts := w.facts(r, r.Intn(50))
		steps, all := w.close(t, facts...)
		if len(all) != len(facts)+len(steps) || !slices.EqualFunc(all[:len(facts)], facts, same) {
			t.Fatal(len(all), shorts(facts...))
		}
		for i, p := range steps {
			here := len(facts) + i
			var told api.Term
			var e api.Errno
			if p.Kind == api.ProofSame {
				told, e = cong.Same(all[:here], p.Terms[0], p.Terms[1], p.At...)
			} else {
				told, e = cong.Apply(w.datas, w.scope, all[:here], p.At[0], p.Name)
			}
			if e != api.OK || !same(told, all[here]) {
				t.Fatal(e, brief(p), short(told), "is not", short(all[here]))
			}
			many++
		}
	}
	if many < 1000 {
		t.Error(many)
	}
}

// The steps are ones of a certificate, which proof.Check takes: it ends in a falsehood that stands among the facts.
func TestStepsAreThoseOfACertificate(t *testing.T) {
	t.Parallel()
	r := rand.New(rand.NewSource(8))
	many := 0
	for range 300 {
		w := trees()
		o := api.Obligation{Scope: w.scope, Hyps: append(w.facts(r, r.Intn(40)), no()), Goal: w.facts(r, 1)[0]}
		var facts []api.Term
		for i, t := range append(slices.Clone(o.Hyps), o.Goal) {
			fact, e := norm.Push(w.datas, w.scope, t, i < len(o.Hyps))
			if e != api.OK {
				panic(e)
			}
			facts = append(facts, fact)
		}
		steps, _ := w.close(t, facts...)
		p := api.Proof{Kind: api.ProofFalse, At: []int{len(o.Hyps) - 1}}
		for _, step := range slices.Backward(steps) {
			step.Kids = []api.Proof{p}
			p = step
		}
		if e := proof.Check(w.datas, o, p); e != api.OK {
			t.Fatal(e, shorts(facts...), brief(steps...))
		}
		many += len(steps)
	}
	if many < 1000 {
		t.Error(many)
	}
}

// What is equal: terms by their Keys, and a class of each.
type equal map[string]int

func (c equal) join(a, b string) bool {
	from, to := c[a], c[b]
	if from == to {
		return false
	}
	for key, class := range c {
		if class == from {
			c[key] = to
		}
	}
	return true
}

// allEqual are the classes of all parts of facts: the sides of equalities are of one, and functions of what is of one.
func allEqual(facts ...api.Term) equal {
	c := equal{}
	var into func(t api.Term)
	into = func(t api.Term) {
		for _, kid := range t.Kids {
			into(kid)
		}
		if key := term.Key(t); c[key] == 0 {
			c[key] = len(c) + 1
		}
	}
	for _, fact := range facts {
		into(fact)
	}
	apps := reckonApps(facts...)
	for more := true; more; {
		more = false
		for _, fact := range facts {
			if fact.Kind == api.TermEq {
				more = c.join(term.Key(fact.Kids[0]), term.Key(fact.Kids[1])) || more
			}
		}
		for _, a := range apps {
			for _, b := range apps {
				if a.Name == b.Name && c[term.Key(a.Kids[0])] == c[term.Key(b.Kids[0])] {
					more = c.join(term.Key(a), term.Key(b)) || more
				}
			}
		}
	}
	return c
}

// Of equal data all functions that stand there are equal: there is a path between them, or of truths it is said that
// they are the same. And nothing else is.
func TestFunctionsOfEqualDataAreEqual(t *testing.T) {
	t.Parallel()
	r := rand.New(rand.NewSource(9))
	equals, truths, others := 0, 0, 0
	for range 300 {
		w := pick(r, trees, odds)()
		facts := w.facts(r, r.Intn(30))
		_, all := w.close(t, facts...)
		c, g := allEqual(facts...), newGraph(all...)
		apps := reckonApps(facts...)
		for i, a := range apps {
			for _, b := range apps[i+1:] {
				_, ok := g.path(a, b)
				_, to, _ := term.Function(w.datas, a.Name)
				switch {
				case to != "bool":
					if ok != (c[term.Key(a)] == c[term.Key(b)]) {
						t.Fatal(ok, short(a), short(b), shorts(facts...))
					}
					if ok {
						equals++
					} else {
						others++
					}
				case a.Name == b.Name && c[term.Key(a)] == c[term.Key(b)]:
					isBoth := func(x api.Term) bool { return same(x, both(a, b)) || same(x, both(b, a)) }
					if !slices.ContainsFunc(all, isBoth) {
						t.Fatal(short(a), short(b), shorts(facts...))
					}
					truths++
				}
			}
		}
	}
	if equals < 1000 || truths < 100 || others < 1000 {
		t.Error(equals, truths, others)
	}
}

// Behind the last step no pair is due: of all facts as given ones nothing is told any more, but of truths.
func TestWhatIsClosedStaysAsItIs(t *testing.T) {
	t.Parallel()
	r := rand.New(rand.NewSource(10))
	for range 300 {
		w := pick(r, trees, odds)()
		facts := w.facts(r, r.Intn(30))
		_, all := w.close(t, facts...)
		steps, _ := w.close(t, all...)
		for _, p := range steps {
			if _, to, _ := term.Function(w.datas, p.Name); p.Kind == api.ProofApply && to != "bool" {
				t.Fatal(brief(p), shorts(facts...))
			}
		}
	}
}

// value is one of that sort of the trees; small, so that values are often the same.
func value(r *rand.Rand, sort string, size int) api.Value {
	v := api.Value{Kind: api.ValueData}
	switch {
	case sort == "int":
		return api.Value{Kind: api.ValueInt, Num: num.Of(int64(r.Intn(2)))}
	case sort == "bool":
		return api.Value{Kind: api.ValueBool, Truth: r.Intn(2) == 0}
	case size <= 0 || r.Intn(6) == 0:
		return v
	}
	d := trees().datas[slices.IndexFunc(trees().datas, func(d api.Data) bool { return d.Name == sort })]
	con := pick(r, d.Cons...)
	v.Name = con.Name
	for _, field := range con.Fields {
		v.Fields = append(v.Fields, value(r, field, size-2))
	}
	return v
}

// What is laid comes to true wherever all facts do.
func TestWhatIsLaidComesToTrueWhereAllFactsDo(t *testing.T) {
	t.Parallel()
	r := rand.New(rand.NewSource(11))
	w, many := trees(), 0
	for range 1000 {
		var bounds []api.Bound
		for _, s := range w.scope {
			bounds = append(bounds, api.Bound{Name: s.Name, Value: value(r, s.Sort, 3)})
		}
		comes := func(a api.Term) bool {
			v, e := model.Eval(w.datas, bounds, a)
			if e != api.OK || v.Kind != api.ValueBool {
				t.Fatal(e, short(a))
			}
			return v.Truth
		}
		facts := slices.DeleteFunc(w.facts(r, 80), func(a api.Term) bool { return !comes(a) })
		_, all := w.close(t, facts...)
		for _, fact := range all[len(facts):] {
			if !comes(fact) {
				t.Fatal(short(fact), shorts(facts...))
			}
			many++
		}
	}
	if many < 1000 {
		t.Error(many)
	}
}
