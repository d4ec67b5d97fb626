package solver_test

import (
	"math/rand"
	"slices"
	"strings"
	"testing"

	"whetstone/api"
	"whetstone/num"
	"whetstone/proof"
	"whetstone/solver"
	"whetstone/term"
)

const most = api.MaxSteps

// datas are lists of numbers with a mark, and trees of lists.
func datas() []api.Data {
	return []api.Data{
		{Name: "list", Cons: []api.Con{{Name: "nil"}, {Name: "cons", Fields: []string{"int", "list", "bool"}}}},
		{Name: "tree", Cons: []api.Con{{Name: "node", Fields: []string{"tree", "list", "tree"}}, {Name: "end"}}},
	}
}

// scope has numbers x, y, z, w; truths p, q, r, s; lists k, l, m, n; trees t, u.
func scope() []api.Sorted {
	var told []api.Sorted
	for _, row := range []string{"int x y z w", "bool p q r s", "list k l m n", "tree t u"} {
		words := strings.Fields(row)
		for _, name := range words[1:] {
			told = append(told, api.Sorted{Name: name, Sort: words[0]})
		}
	}
	return told
}

func ask(goal api.Term, hyps ...api.Term) api.Obligation {
	return api.Obligation{Scope: scope(), Hyps: hyps, Goal: goal}
}

func node(kind api.TermKind, kids ...api.Term) api.Term {
	return api.Term{Kind: kind, Kids: kids}
}

func v(name string) api.Term {
	return api.Term{Kind: api.TermVar, Name: name}
}

func n(i int64) api.Term {
	return api.Term{Kind: api.TermNum, Num: num.Of(i)}
}

func sum(kids ...api.Term) api.Term {
	return node(api.TermAdd, kids...)
}

func scale(i int64, t api.Term) api.Term {
	return api.Term{Kind: api.TermScale, Num: num.Of(i), Kids: []api.Term{t}}
}

func app(name string, t api.Term) api.Term {
	return api.Term{Kind: api.TermApp, Name: name, Kids: []api.Term{t}}
}

func eq(a, b api.Term) api.Term {
	return node(api.TermEq, a, b)
}

func le(a, b api.Term) api.Term {
	return node(api.TermLe, a, b)
}

func not(t api.Term) api.Term {
	return node(api.TermNot, t)
}

func and(l ...api.Term) api.Term {
	return node(api.TermAnd, l...)
}

func or(l ...api.Term) api.Term {
	return node(api.TermOr, l...)
}

func iff(a, b api.Term) api.Term {
	return node(api.TermIff, a, b)
}

// what tells what was found, in a word, and holds it against the chapter's words.
func what(t *testing.T, datas []api.Data, o api.Obligation, f api.Found) string {
	t.Helper()
	switch {
	case len(f.Proof) == 1 && !f.Met && len(f.Model) == 0:
		if e := proof.Check(datas, o, f.Proof[0]); e != api.OK {
			t.Fatalf("a certificate that is not taken: %v\n%v\n%+v", e, show(o), f.Proof[0])
		}
		return "proof"
	case f.Met && len(f.Proof) == 0:
		for i, hyp := range append(slices.Clone(o.Hyps), o.Goal) {
			is, e := solver.Holds(datas, o.Scope, f.Model, hyp)
			if e != api.OK || is != (i < len(o.Hyps)) {
				t.Fatalf("a model in which %d is %v, %v\n%v\n%+v", i, is, e, show(o), f.Model)
			}
		}
		if !isSound(datas, o, f.Model) {
			t.Fatalf("a model that is not sound\n%v\n%+v", show(o), f.Model)
		}
		return "model"
	case len(f.Proof) == 0 && !f.Met && len(f.Model) == 0:
		return "unknown"
	}
	t.Fatalf("%+v", f)
	return ""
}

func solve(t *testing.T, datas []api.Data, o api.Obligation, steps int) string {
	t.Helper()
	f, e := solver.Solve(datas, o, steps)
	if e != api.OK {
		t.Fatalf("%v\n%v", e, show(o))
	}
	return what(t, datas, o, f)
}

// isSound reckons anew whether a model is for an obligation's terms.
func isSound(datas []api.Data, o api.Obligation, model []api.Atomic) bool {
	said := map[string]api.Atomic{}
	for _, a := range model {
		said[a.Key] = a
	}
	comes := func(t api.Term) string {
		key := term.Key(t)
		a, met := said[key]
		sort, _ := term.Sort(datas, o.Scope, t)
		switch {
		case sort == "int":
			return num.Text(a.Num)
		case sort == "bool" && a.Truth:
			return "is"
		case sort == "bool":
			return "is not"
		case met:
			return "class " + num.Text(num.Of(int64(a.Class)))
		}
		return "own " + key
	}
	apps := map[string]string{}
	sound := true
	var through func(l ...api.Term)
	through = func(l ...api.Term) {
		for _, t := range l {
			through(t.Kids...)
			if t.Kind != api.TermApp {
				continue
			}
			of := t.Name + " of " + comes(t.Kids[0])
			if had, met := apps[of]; met && had != comes(t) {
				sound = false
			}
			apps[of] = comes(t)
		}
	}
	through(o.Hyps...)
	through(o.Goal)
	return sound
}

var signs = map[api.TermKind]string{api.TermAdd: "+", api.TermEq: "=", api.TermLe: "<=", api.TermNot: "not", api.TermAnd: "and", api.TermOr: "or", api.TermIff: "iff", api.TermTrue: "true", api.TermFalse: "false"}

func text(t api.Term) string {
	head := signs[t.Kind]
	switch t.Kind {
	case api.TermVar:
		return t.Name
	case api.TermNum:
		return num.Text(t.Num)
	case api.TermScale:
		head = num.Text(t.Num) + " *"
	case api.TermApp:
		head = t.Name
	}
	for _, kid := range t.Kids {
		head += " " + text(kid)
	}
	return "(" + head + ")"
}

func show(o api.Obligation) string {
	told := ""
	for _, hyp := range o.Hyps {
		told += text(hyp) + "\n"
	}
	told += "shows " + text(o.Goal)
	return told[:min(len(told), 2000)]
}

// pick is one of l.
func pick[T any](r *rand.Rand, l ...T) T {
	return l[r.Intn(len(l))]
}

// told asks for what is found with all steps that may be.
func told(t *testing.T, want string, o api.Obligation) {
	t.Helper()
	if got := solve(t, datas(), o, most); got != want {
		t.Errorf("%s is not %s:\n%s", got, want, show(o))
	}
}

func fails(t *testing.T, want api.Errno, o api.Obligation, steps int) {
	t.Helper()
	f, e := solver.Solve(datas(), o, steps)
	if e != want || len(f.Proof) > 0 || f.Met || len(f.Model) > 0 {
		t.Errorf("%v is not %v: %+v", e, want, f)
	}
}
