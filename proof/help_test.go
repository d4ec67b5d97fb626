package proof_test

import (
	"math/rand"
	"slices"
	"strconv"
	"testing"

	"whetstone/api"
	"whetstone/num"
	"whetstone/proof"
	"whetstone/ratio"
	"whetstone/term"
)

const (
	full   = 1<<32 - 1 // the greatest digit that there is
	noKind = 15        // the first kind of terms that there is not
	most   = 1<<63 - 1 // the greatest place that there is
)

// Terms.

func kids(kind api.TermKind, l ...api.Term) api.Term { return api.Term{Kind: kind, Kids: l} }
func name(s string) api.Term                         { return api.Term{Kind: api.TermVar, Name: s} }
func number(n int64) api.Term                        { return api.Term{Kind: api.TermNum, Num: num.Of(n)} }
func yes() api.Term                                  { return kids(api.TermTrue) }
func no() api.Term                                   { return kids(api.TermFalse) }
func add(l ...api.Term) api.Term                     { return kids(api.TermAdd, l...) }
func equals(l ...api.Term) api.Term                  { return kids(api.TermEq, l...) }
func atMost(l ...api.Term) api.Term                  { return kids(api.TermLe, l...) }
func not(l ...api.Term) api.Term                     { return kids(api.TermNot, l...) }
func and(l ...api.Term) api.Term                     { return kids(api.TermAnd, l...) }
func or(l ...api.Term) api.Term                      { return kids(api.TermOr, l...) }
func iff(l ...api.Term) api.Term                     { return kids(api.TermIff, l...) }
func app(f string, l ...api.Term) api.Term           { return api.Term{Kind: api.TermApp, Name: f, Kids: l} }
func scale(n int64, l ...api.Term) api.Term {
	return api.Term{Kind: api.TermScale, Num: num.Of(n), Kids: l}
}

// wrongInts are numbers that are not right.
func wrongInts() []api.Int {
	return []api.Int{{Neg: true}, {Digits: []uint32{0}}, {Digits: []uint32{5, 0}}, {Digits: []uint32{api.Base}}, {Neg: true, Digits: []uint32{full, 1}}}
}

// wrongRatios are ratios that are not right.
func wrongRatios() []api.Ratio {
	one := num.Of(1)
	l := []api.Ratio{{}, {Num: one}, {Num: num.Of(2), Den: num.Of(2)}, {Num: num.Of(4), Den: num.Of(6)}, {Den: num.Of(3)}, {Num: one, Den: num.Of(-1)}, {Num: num.Of(-1), Den: num.Of(-2)}}
	for _, n := range wrongInts() {
		l = append(l, api.Ratio{Num: n, Den: one}, api.Ratio{Num: one, Den: n})
	}
	return l
}

// laden is t with what most kinds do not name.
func laden(t api.Term) api.Term {
	if t.Name == "" {
		t.Name = "laden"
	}
	if len(t.Num.Digits) == 0 {
		t.Num = api.Int{Neg: true, Digits: []uint32{5, full, 0}}
	}
	return t
}

// deep is inner within so many functions.
func deep(depth int, f string, inner api.Term) api.Term {
	for range depth {
		inner = app(f, inner)
	}
	return inner
}

func short(t api.Term) string {
	key := term.Key(t)
	return key[:min(len(key), 600)]
}

func shorts(l ...api.Term) string {
	text := ""
	for _, t := range l {
		text += short(t) + "; "
	}
	return text
}

// brief is what is told of a certificate that is not as it should be.
func brief(p api.Proof) string {
	text := strconv.Itoa(int(p.Kind)) + " at"
	for _, at := range p.At[:min(len(p.At), 9)] {
		text += " " + strconv.Itoa(at)
	}
	for _, a := range p.Coefs[:min(len(p.Coefs), 9)] {
		text += ", " + ratio.Text(a)
	}
	text += " " + p.Name + " " + shorts(p.Terms...) + num.Text(p.Num)
	if len(p.Kids) > 0 && proof.Size(p) < 50 {
		text += " ("
		for _, kid := range p.Kids {
			text += brief(kid)
		}
		text += ")"
	}
	return text + "; "
}

// Steps.

func places(at ...int) []int { return at }

// times are ratios by their texts.
func times(l ...string) []api.Ratio {
	var all []api.Ratio
	for _, s := range l {
		a, ok := ratio.Parse(s)
		if !ok {
			panic(s)
		}
		all = append(all, a)
	}
	return all
}

func part(at int, l ...api.Proof) api.Proof {
	return api.Proof{Kind: api.ProofPart, At: places(at), Kids: l}
}

func cases(at int, l ...api.Proof) api.Proof {
	return api.Proof{Kind: api.ProofCase, At: places(at), Kids: l}
}

func split(t api.Term, n int64, l ...api.Proof) api.Proof {
	return api.Proof{Kind: api.ProofLess, Terms: []api.Term{t}, Num: num.Of(n), Kids: l}
}

func cut(at []int, coefs []api.Ratio, l ...api.Proof) api.Proof {
	return api.Proof{Kind: api.ProofCut, At: at, Coefs: coefs, Kids: l}
}

func same(a, b api.Term, at []int, l ...api.Proof) api.Proof {
	return api.Proof{Kind: api.ProofSame, Terms: []api.Term{a, b}, At: at, Kids: l}
}

func apply(at int, f string, l ...api.Proof) api.Proof {
	return api.Proof{Kind: api.ProofApply, At: places(at), Name: f, Kids: l}
}

func falsehood(at ...int) api.Proof { return api.Proof{Kind: api.ProofFalse, At: at} }
func clash(at ...int) api.Proof     { return api.Proof{Kind: api.ProofClash, At: at} }

func farkas(at []int, coefs ...string) api.Proof {
	return api.Proof{Kind: api.ProofFarkas, At: at, Coefs: times(coefs...)}
}

// nothing is no step.
func nothing() api.Proof { return api.Proof{} }

// A world is what stands around facts.
type world struct {
	datas []api.Data
	scope []api.Sorted
}

// trees is a world in which all names are names of their own.
func trees() world {
	return world{
		[]api.Data{
			{Name: "tree", Cons: []api.Con{{Name: "LEAF"}, {Name: "FORK", Fields: []string{"tree", "int", "bool", "pot"}}}},
			{Name: "pot", Cons: []api.Con{{Name: "POT", Fields: []string{"tree", "bool", "int"}}}},
		},
		[]api.Sorted{
			{Name: "n", Sort: "int"}, {Name: "m", Sort: "int"}, {Name: "k", Sort: "int"}, {Name: "p", Sort: "bool"}, {Name: "q", Sort: "bool"},
			{Name: "s", Sort: "tree"}, {Name: "t", Sort: "tree"}, {Name: "u", Sort: "tree"}, {Name: "o", Sort: "pot"}, {Name: "i", Sort: "pot"},
		},
	}
}

// odds is a world in which names come twice, and some are no sorts.
func odds() world {
	return world{
		[]api.Data{
			{Name: "tree", Cons: []api.Con{{Name: "LEAF"}, {Name: "FORK", Fields: []string{"tree", "int", "bool", "pot"}}, {Name: "FORK", Fields: []string{"bool", "bool"}}}},
			{Name: "", Cons: []api.Con{{Name: "E", Fields: []string{"int", "", "bool"}}, {Name: "", Fields: []string{"bool"}}}},
			{Name: "int", Cons: []api.Con{{Name: "INT", Fields: []string{"bool"}}}},
			{Name: "pot", Cons: []api.Con{{Name: "POT", Fields: []string{"tree", "bool", "int"}}, {Name: "ODD", Fields: []string{"none", "int"}}, {Name: "LEAF", Fields: []string{"int"}}}},
			{Name: "tree", Cons: []api.Con{{Name: "LATE", Fields: []string{"bool", "tree"}}, {Name: "POT", Fields: []string{"int"}}}},
		},
		[]api.Sorted{
			{Name: "late", Sort: "tree"}, {Name: "turned", Sort: "int"}, {Name: "n", Sort: "int"}, {Name: "m", Sort: "int"}, {Name: "p", Sort: "bool"},
			{Name: "s", Sort: "tree"}, {Name: "t", Sort: "tree"}, {Name: "o", Sort: "pot"}, {Name: "e", Sort: ""}, {Name: "d", Sort: ""}, {Name: "odd", Sort: "none"},
			{Name: "late", Sort: "int"}, {Name: "turned", Sort: "tree"},
		},
	}
}

// obliged is that of the goal, in the world.
func (w world) obliged(goal api.Term, hyps ...api.Term) api.Obligation {
	return api.Obligation{Scope: w.scope, Hyps: hyps, Goal: goal}
}

// when is what Check tells of a certificate, if it shows what it must, or if not.
func when(ok bool) api.Errno {
	if ok {
		return api.OK
	}
	return api.ErrProof
}

// tells fails, unless Check tells that of it in the trees.
func tells(t *testing.T, o api.Obligation, p api.Proof, want api.Errno) {
	t.Helper()
	if e := proof.Check(trees().datas, o, p); e != want {
		t.Fatal(e, "is not", want, ":", shorts(o.Hyps[:min(len(o.Hyps), 20)]...), short(o.Goal), brief(p))
	}
}

// shows fails, unless the certificate shows that the facts can not be. They are given as hypotheses; the goal's, the
// last one, is TermTrue.
func shows(t *testing.T, p api.Proof, facts ...api.Term) {
	t.Helper()
	tells(t, trees().obliged(no(), facts...), p, api.OK)
}

// fails fails, unless the certificate shows nothing of these facts.
func fails(t *testing.T, p api.Proof, facts ...api.Term) {
	t.Helper()
	tells(t, trees().obliged(no(), facts...), p, api.ErrProof)
}

// Random ones.

// pick is one of them.
func pick[T any](r *rand.Rand, l ...T) T { return l[r.Intn(len(l))] }

// functions are the names of all that there are in the world.
func (w world) functions() []string {
	l := []string{"tag"}
	for _, d := range w.datas {
		for _, c := range d.Cons {
			for i := range c.Fields {
				l = append(l, c.Name+"."+string(rune('0'+i)))
			}
		}
	}
	return slices.DeleteFunc(l, func(f string) bool { _, _, ok := term.Function(w.datas, f); return !ok })
}

// some is a term of that sort.
func (w world) some(r *rand.Rand, sort string, size int) api.Term {
	var names, made []api.Term
	for _, s := range w.scope {
		if is, e := term.Sort(w.datas, w.scope, name(s.Name)); e == api.OK && is == sort {
			names = append(names, name(s.Name))
		}
	}
	if size <= 0 || len(names) > 0 && r.Intn(3) == 0 {
		if sort == "int" && r.Intn(2) == 0 {
			return number(int64(r.Intn(9) - 4))
		}
		return pick(r, names...)
	}
	for _, f := range w.functions() {
		if from, to, _ := term.Function(w.datas, f); to == sort && from != "int" && from != "bool" {
			if f == "tag" {
				from = pick(r, "tree", "pot")
			}
			made = append(made, app(f, w.some(r, from, size-2)))
		}
	}
	if sort == "int" && r.Intn(2) == 0 {
		a, n := w.some(r, "int", size-1), int64(r.Intn(9)-4)
		return pick(r, add(a, w.some(r, "int", size-1)), add(a, number(n)), scale(n, a), add(), add(a))
	}
	return pick(r, append(made, pick(r, names...))...)
}

// formula is one of the world.
func (w world) formula(r *rand.Rand, size int) api.Term {
	if size <= 0 || r.Intn(4) == 0 {
		sort := pick(r, "int", "int", "tree", "pot")
		a, b := w.some(r, sort, 1), w.some(r, sort, 1)
		if sort == "int" {
			return pick(r, atMost(a, b), atMost(a, b), equals(a, b), not(atMost(a, b)), not(equals(a, b)))
		}
		return pick(r, equals(a, b), equals(a, b), not(equals(a, b)), w.some(r, "bool", 1), yes(), no())
	}
	a, b := w.formula(r, size-2), w.formula(r, size-2)
	return pick(r, not(a), and(a, b), or(a, b), iff(a, b), and(a, b, w.formula(r, size-3)), or(a), and(), or())
}
