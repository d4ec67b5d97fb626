package closing_test

import (
	"math/rand"
	"slices"
	"strconv"
	"testing"

	"whetstone/api"
	"whetstone/closing"
	"whetstone/num"
	"whetstone/term"
)

const (
	full   = 1<<32 - 1 // the greatest digit that there is
	noKind = 15        // the first kind of terms that there is not
)

// Terms.

func kids(kind api.TermKind, l ...api.Term) api.Term { return api.Term{Kind: kind, Kids: l} }
func name(s string) api.Term                         { return api.Term{Kind: api.TermVar, Name: s} }
func number(n int64) api.Term                        { return api.Term{Kind: api.TermNum, Num: num.Of(n)} }
func yes() api.Term                                  { return kids(api.TermTrue) }
func no() api.Term                                   { return kids(api.TermFalse) }
func add(l ...api.Term) api.Term                     { return kids(api.TermAdd, l...) }
func equals(l ...api.Term) api.Term                  { return kids(api.TermEq, l...) }
func atMost(l ...api.Term) api.Term                  { return kids(api.TermLe, l...) }
func not(l ...api.Term) api.Term                     { return kids(api.TermNot, l...) }
func and(l ...api.Term) api.Term                     { return kids(api.TermAnd, l...) }
func or(l ...api.Term) api.Term                      { return kids(api.TermOr, l...) }
func iff(l ...api.Term) api.Term                     { return kids(api.TermIff, l...) }
func app(f string, l ...api.Term) api.Term           { return api.Term{Kind: api.TermApp, Name: f, Kids: l} }
func scale(n int64, l ...api.Term) api.Term {
	return api.Term{Kind: api.TermScale, Num: num.Of(n), Kids: l}
}

// both is what is told of truths a and b.
func both(a, b api.Term) api.Term {
	return and(or(not(a), b), or(not(b), a))
}

// laden is t with what most kinds do not name.
func laden(t api.Term) api.Term {
	if t.Name == "" {
		t.Name = "laden"
	}
	if len(t.Num.Digits) == 0 {
		t.Num = api.Int{Neg: true, Digits: []uint32{5, full, 0}}
	}
	return t
}

// wide is an and of so many parts, itself among them.
func wide(size int) api.Term {
	return and(slices.Repeat([]api.Term{yes()}, size-1)...)
}

// deep is inner within so many functions.
func deep(depth int, f string, inner api.Term) api.Term {
	for range depth {
		inner = app(f, inner)
	}
	return inner
}

// same nests no calls: what is held against each other here may be deep.
func same(a, b api.Term) bool {
	ahead := [][2]*api.Term{{&a, &b}}
	for len(ahead) > 0 {
		last := len(ahead) - 1
		a, b := ahead[last][0], ahead[last][1]
		ahead = ahead[:last]
		if a.Kind != b.Kind || a.Name != b.Name || a.Num.Neg != b.Num.Neg || !slices.Equal(a.Num.Digits, b.Num.Digits) || len(a.Kids) != len(b.Kids) {
			return false
		}
		for i := range a.Kids {
			ahead = append(ahead, [2]*api.Term{&a.Kids[i], &b.Kids[i]})
		}
	}
	return true
}

func sameStep(a, b api.Proof) bool {
	return a.Kind == b.Kind && slices.Equal(a.At, b.At) && len(a.Coefs) == 0 && len(b.Coefs) == 0 && a.Name == b.Name &&
		slices.EqualFunc(a.Terms, b.Terms, same) && !a.Num.Neg && len(a.Num.Digits) == 0 && len(a.Kids) == 0 && len(b.Kids) == 0
}

// What is told of things that are not as they should be.

func short(t api.Term) string {
	key := term.Key(t)
	return key[:min(len(key), 400)]
}

func shorts(l ...api.Term) string {
	text := strconv.Itoa(len(l)) + ": "
	for _, t := range l[:min(len(l), 30)] {
		text += short(t) + "; "
	}
	return text
}

func brief(l ...api.Proof) string {
	text := strconv.Itoa(len(l)) + ": "
	for _, p := range l[:min(len(l), 30)] {
		text += strconv.Itoa(int(p.Kind)) + " at"
		for _, at := range p.At {
			text += " " + strconv.Itoa(at)
		}
		text += " " + p.Name + " " + shorts(p.Terms...)
	}
	return text
}

// Steps.

func stepSame(a, b api.Term, at ...int) api.Proof {
	return api.Proof{Kind: api.ProofSame, Terms: []api.Term{a, b}, At: at}
}

func stepApply(at int, f string) api.Proof {
	return api.Proof{Kind: api.ProofApply, At: []int{at}, Name: f}
}

// A world is what stands around facts.
type world struct {
	datas []api.Data
	scope []api.Sorted
}

// trees is a world in which all names are names of their own.
func trees() world {
	return world{
		[]api.Data{
			{Name: "tree", Cons: []api.Con{{Name: "LEAF"}, {Name: "FORK", Fields: []string{"tree", "int", "bool", "pot"}}}},
			{Name: "pot", Cons: []api.Con{{Name: "POT", Fields: []string{"tree", "bool", "int"}}}},
		},
		[]api.Sorted{
			{Name: "n", Sort: "int"}, {Name: "m", Sort: "int"}, {Name: "p", Sort: "bool"}, {Name: "q", Sort: "bool"},
			{Name: "s", Sort: "tree"}, {Name: "t", Sort: "tree"}, {Name: "u", Sort: "tree"}, {Name: "v", Sort: "tree"}, {Name: "o", Sort: "pot"}, {Name: "i", Sort: "pot"},
		},
	}
}

// odds is a world in which names come twice, and some are no sorts.
func odds() world {
	return world{
		[]api.Data{
			{Name: "tree", Cons: []api.Con{{Name: "LEAF"}, {Name: "FORK", Fields: []string{"tree", "int", "bool", "pot"}}, {Name: "FORK", Fields: []string{"bool", "bool"}}}},
			{Name: "", Cons: []api.Con{{Name: "E", Fields: []string{"int", "", "bool"}}, {Name: "", Fields: []string{"bool"}}}},
			{Name: "int", Cons: []api.Con{{Name: "INT", Fields: []string{"bool"}}}},
			{Name: "bool", Cons: []api.Con{{Name: "BOOL", Fields: []string{"int"}}}},
			{Name: "pot", Cons: []api.Con{{Name: "POT", Fields: []string{"tree", "bool", "int"}}, {Name: "ODD", Fields: []string{"none", "int"}}, {Name: "LEAF", Fields: []string{"int"}}}},
			{Name: "tree", Cons: []api.Con{{Name: "LATE", Fields: []string{"bool", "tree"}}, {Name: "POT", Fields: []string{"int"}}}},
		},
		[]api.Sorted{
			{Name: "late", Sort: "tree"}, {Name: "turned", Sort: "int"}, {Name: "n", Sort: "int"}, {Name: "m", Sort: "int"}, {Name: "p", Sort: "bool"},
			{Name: "s", Sort: "tree"}, {Name: "t", Sort: "tree"}, {Name: "o", Sort: "pot"}, {Name: "e", Sort: ""}, {Name: "d", Sort: ""}, {Name: "odd", Sort: "none"},
			{Name: "late", Sort: "int"}, {Name: "turned", Sort: "tree"},
		},
	}
}

// goes fails, unless that is the path from a to b.
func goes(t *testing.T, facts []api.Term, a, b api.Term, at ...int) {
	t.Helper()
	got, ok := closing.Path(facts, a, b)
	if !ok || !slices.Equal(got, at) {
		t.Fatal(got, ok, "is not", at, ":", shorts(facts...), short(a), short(b))
	}
}

// lost fails, unless there is no path from a to b, and none back.
func lost(t *testing.T, facts []api.Term, a, b api.Term) {
	t.Helper()
	for range 2 {
		if got, ok := closing.Path(facts, a, b); ok || len(got) > 0 {
			t.Fatal(got, ok, ":", shorts(facts...), short(a), short(b))
		}
		a, b = b, a
	}
}

// closes fails, unless Close tells these steps of the facts, and lays that behind them.
func (w world) closes(t *testing.T, facts []api.Term, steps []api.Proof, laid ...api.Term) {
	t.Helper()
	w.tells(t, facts, steps, slices.Concat(facts, laid), api.OK)
}

// refuses fails, unless Close tells the error of the facts.
func (w world) refuses(t *testing.T, want api.Errno, facts ...api.Term) {
	t.Helper()
	w.tells(t, facts, nil, nil, want)
}

func (w world) tells(t *testing.T, facts []api.Term, steps []api.Proof, all []api.Term, want api.Errno) {
	t.Helper()
	got, row, e := closing.Close(w.datas, w.scope, facts...)
	if e != want || !slices.EqualFunc(got, steps, sameStep) || !slices.EqualFunc(row, all, same) {
		t.Fatal(e, "is not", want, ":", brief(got...), "is not", brief(steps...), ":", shorts(row...), "is not", shorts(all...))
	}
	if e != api.OK && (got != nil || row != nil) {
		t.Fatal("lists beside an error")
	}
}

// Random ones.

// pick is one of them.
func pick[T any](r *rand.Rand, l ...T) T { return l[r.Intn(len(l))] }

// functions are the names of all that there are in the world.
func (w world) functions() []string {
	l := []string{"tag"}
	for _, d := range w.datas {
		for _, c := range d.Cons {
			for i := range c.Fields {
				l = append(l, c.Name+"."+strconv.Itoa(i))
			}
		}
	}
	return slices.DeleteFunc(l, func(f string) bool { _, _, ok := term.Function(w.datas, f); return !ok })
}

// names are those of that sort in the scope.
func (w world) names(sort string) []api.Term {
	var l []api.Term
	for _, s := range w.scope {
		if is, e := term.Sort(w.datas, w.scope, name(s.Name)); e == api.OK && is == sort {
			l = append(l, name(s.Name))
		}
	}
	return l
}

// some is a term of that sort.
func (w world) some(r *rand.Rand, sort string, size int) api.Term {
	names := w.names(sort)
	if size <= 0 || r.Intn(4) == 0 {
		if sort == "int" && r.Intn(3) == 0 {
			return number(int64(r.Intn(3)))
		}
		return pick(r, names...)
	}
	var made []api.Term
	for _, f := range w.functions() {
		if from, to, _ := term.Function(w.datas, f); to == sort && from != "int" && from != "bool" {
			if f == "tag" {
				from = pick(r, "tree", "pot")
			}
			made = append(made, app(f, w.some(r, from, size-1)))
		}
	}
	if sort == "int" && r.Intn(4) == 0 {
		a := w.some(r, "int", size-1)
		return pick(r, add(a, w.some(r, "int", size-1)), scale(-2, a), add(), add(a))
	}
	return pick(r, made...)
}

// pool are terms by their sorts, of which facts are made: so the same ones stand in many facts.
type pool map[string][]api.Term

func (w world) pool(r *rand.Rand) pool {
	p := pool{}
	for _, sort := range []string{"int", "bool", "tree", "pot"} {
		p[sort] = w.names(sort)
		for range r.Intn(3) {
			p[sort] = append(p[sort], w.some(r, sort, 2))
		}
	}
	for range 2 {
		for _, f := range w.functions() {
			from, to, _ := term.Function(w.datas, f)
			if f == "tag" {
				from = pick(r, "tree", "pot")
			}
			for range r.Intn(4) {
				a := app(f, pick(r, append(p[from], yes())...))
				if sort, e := term.Sort(w.datas, w.scope, a); e == api.OK && sort == to {
					p[to] = append(p[to], a)
				}
			}
		}
	}
	return p
}

// fact is a truth of the pool, most often an equality of data.
func (p pool) fact(r *rand.Rand) api.Term {
	sort := pick(r, "int", "tree", "tree", "tree", "pot", "pot")
	a, b := pick(r, p[sort]...), pick(r, p[sort]...)
	n, m := pick(r, p["int"]...), pick(r, p["int"]...)
	x, y := pick(r, p["bool"]...), pick(r, p["bool"]...)
	switch r.Intn(12) {
	case 0, 1:
		return pick(r, atMost(n, m), not(atMost(n, m)), equals(n, m), atMost(add(n, scale(2, m)), number(1)))
	case 2:
		return pick(r, not(equals(a, b)), yes(), no(), and(), or(equals(a, b)), iff(equals(a, b), yes()))
	case 3, 4:
		return pick(r, x, not(x), and(x, y), or(x, not(y)), iff(x, y))
	case 5:
		return and(p.fact(r), p.fact(r))
	}
	return equals(a, b)
}

// facts are truths of one pool.
func (w world) facts(r *rand.Rand, many int) []api.Term {
	var l []api.Term
	p := w.pool(r)
	for range many {
		l = append(l, p.fact(r))
	}
	return l
}
