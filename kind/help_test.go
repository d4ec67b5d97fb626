package kind_test

import (
	"math/rand"
	"slices"
	"strconv"
	"strings"
	"testing"

	"whetstone/api"
	"whetstone/num"
	"whetstone/term"
)

const full = 1<<32 - 1 // the greatest digit that there is

// Terms.

func kids(kind api.TermKind, l ...api.Term) api.Term { return api.Term{Kind: kind, Kids: l} }
func name(s string) api.Term                         { return api.Term{Kind: api.TermVar, Name: s} }
func number(n int64) api.Term                        { return api.Term{Kind: api.TermNum, Num: num.Of(n)} }
func yes() api.Term                                  { return kids(api.TermTrue) }
func no() api.Term                                   { return kids(api.TermFalse) }
func add(l ...api.Term) api.Term                     { return kids(api.TermAdd, l...) }
func equals(a, b api.Term) api.Term                  { return kids(api.TermEq, a, b) }
func most(a, b api.Term) api.Term                    { return kids(api.TermLe, a, b) }
func not(t api.Term) api.Term                        { return kids(api.TermNot, t) }
func and(l ...api.Term) api.Term                     { return kids(api.TermAnd, l...) }
func or(l ...api.Term) api.Term                      { return kids(api.TermOr, l...) }
func app(f string, l ...api.Term) api.Term           { return api.Term{Kind: api.TermApp, Name: f, Kids: l} }
func kappa(k string, l ...api.Term) api.Term         { return api.Term{Kind: api.TermKappa, Name: k, Kids: l} }
func v() api.Term                                    { return name("v") }

// wide is an or of so many parts, itself among them.
func wide(size int) api.Term {
	return or(slices.Repeat([]api.Term{yes()}, size-1)...)
}

func sameInt(a, b api.Int) bool { return a.Neg == b.Neg && slices.Equal(a.Digits, b.Digits) }
func sameTerm(a, b api.Term) bool {
	return a.Kind == b.Kind && a.Name == b.Name && sameInt(a.Num, b.Num) && slices.EqualFunc(a.Kids, b.Kids, sameTerm)
}

// Types.

func base(sort string, refine api.Term) api.Type { return api.Type{Sort: sort, Refine: refine} }
func param(n string, t api.Type) api.Param       { return api.Param{Name: n, Type: t} }
func plain(sort string) api.Type                 { return base(sort, yes()) }
func ints(refine api.Term) api.Type              { return base("int", refine) }
func fun(result api.Type, params ...api.Param) api.Type {
	return api.Type{Fun: true, Params: params, Result: []api.Type{result}}
}

func sameType(a, b api.Type) bool {
	return a.Fun == b.Fun && a.Sort == b.Sort && sameTerm(a.Refine, b.Refine) && slices.EqualFunc(a.Result, b.Result, sameType) &&
		slices.EqualFunc(a.Params, b.Params, func(a, b api.Param) bool { return a.Name == b.Name && sameType(a.Type, b.Type) })
}

// isBase and isFunctions are in the words of the document.
func isBase(t api.Type) bool { return !t.Fun && len(t.Params) == 0 && len(t.Result) == 0 }
func isFunctions(t api.Type) bool {
	return t.Fun && t.Sort == "" && len(t.Result) == 1 && sameTerm(t.Refine, api.Term{})
}

// oddTypes are neither base nor of functions.
func oddTypes() []api.Type {
	of := func(change func(t *api.Type)) api.Type {
		t := fun(plain("int"), param("n", plain("int")))
		change(&t)
		return t
	}
	return []api.Type{
		of(func(t *api.Type) { t.Fun = false }), of(func(t *api.Type) { t.Fun, t.Params = false, nil }), of(func(t *api.Type) { t.Fun, t.Result = false, nil }),
		of(func(t *api.Type) { t.Sort = "int" }), of(func(t *api.Type) { t.Refine = yes() }), of(func(t *api.Type) { t.Refine.Name = "n" }), of(func(t *api.Type) { t.Refine.Num.Neg = true }),
		of(func(t *api.Type) { t.Refine.Num.Digits = []uint32{0} }), of(func(t *api.Type) { t.Refine.Kids = []api.Term{{}} }), of(func(t *api.Type) { t.Result = nil }),
		of(func(t *api.Type) { t.Result = append(t.Result, plain("int")) }), {Fun: true}, {Fun: true, Sort: "int", Refine: yes()},
		{Sort: "int", Refine: yes(), Params: []api.Param{{}}}, {Sort: "int", Refine: yes(), Result: []api.Type{plain("int")}},
	}
}

// much is how much is told of a term or a type in a failing test.
const much = 600

// sheet is what is written of one, as one may read it; what is beyond that much is left out.
type sheet struct{ strings.Builder }

func (s *sheet) term(t api.Term) {
	if s.Len() > much {
		return
	}
	signs := []string{"?", "", "", "true", "false", "+", "*", "", "=", "<=", "not", "and", "or", "iff", "kappa "}
	s.WriteString("(" + signs[min(int(t.Kind), 15)%15] + t.Name)
	if num.Right(t.Num) && (t.Kind == api.TermNum || len(t.Num.Digits) > 0) {
		s.WriteString(num.Text(t.Num))
	}
	for _, kid := range t.Kids[:min(len(t.Kids), much)] {
		s.WriteString(" ")
		s.term(kid)
	}
	s.WriteString(")")
}

func (s *sheet) kind(t api.Type) {
	if s.Len() > much {
		return
	}
	if t.Fun {
		s.WriteString("-> ")
	}
	s.WriteString(t.Sort + " ")
	s.term(t.Refine)
	for _, p := range t.Params[:min(len(t.Params), much)] {
		s.WriteString(" [" + p.Name + " ")
		s.kind(p.Type)
		s.WriteString("]")
	}
	for _, result := range t.Result[:min(len(t.Result), much)] {
		s.WriteString(" (")
		s.kind(result)
		s.WriteString(")")
	}
}

func text(t api.Term) string {
	var s sheet
	s.term(t)
	return s.String()
}

func shown(t api.Type) string {
	var s sheet
	s.kind(t)
	return s.String()
}

// tells fails, unless a type and an error are what they should be.
func tells(t *testing.T, what string, got api.Type, e api.Errno, want api.Type, wantE api.Errno) {
	t.Helper()
	if e != wantE || !sameType(got, want) {
		t.Fatal(what, "is", e, shown(got), "and not", wantE, shown(want))
	}
}

// tellsTerm fails, unless a term and an error are what they should be.
func tellsTerm(t *testing.T, what string, got api.Term, e api.Errno, want api.Term, wantE api.Errno) {
	t.Helper()
	if e != wantE || !sameTerm(got, want) {
		t.Fatal(what, "is", e, text(got), "and not", wantE, text(want))
	}
}

// The world in which types stand.

func world() []api.Data {
	return []api.Data{
		{Name: "list", Cons: []api.Con{{Name: "nil"}, {Name: "cons", Fields: []string{"int", "list"}}}},
		{Name: "box", Cons: []api.Con{{Name: "box", Fields: []string{"bool", "list"}}}},
		{Name: "", Cons: []api.Con{{Name: "e"}}},
		{Name: "bare"},
		{Name: "int", Cons: []api.Con{{Name: "odd", Fields: []string{"bool"}}}},
	}
}

// kappas are those of the world: some may not be put in, and what some put in is no truth, or has names of its own.
func kappas() []api.Kappa {
	params := func(l ...string) []api.Sorted {
		var row []api.Sorted
		for _, n := range l {
			row = append(row, api.Sorted{Name: n, Sort: "int"})
		}
		return row
	}
	return []api.Kappa{
		{Name: "above", Params: params("a", "b"), Body: most(add(name("a"), number(1)), name("b"))},
		{Name: "none", Body: no()},
		{Name: "sum", Params: params("a"), Body: add(name("a"), name("a"))},
		{Name: "open", Params: params("a"), Body: most(name("a"), name("n"))},
		{Name: "value", Body: most(number(0), v())},
		{Name: "nested", Body: kappa("none")},
		{Name: "great", Params: params("a"), Body: and(slices.Repeat([]api.Term{name("a")}, 150)...)},
	}
}

// row is a scope, with a name that comes twice, one of no sort, and v.
func row() []api.Sorted {
	return []api.Sorted{{Name: "late", Sort: "bool"}, {Name: "n", Sort: "int"}, {Name: "p", Sort: "bool"}, {Name: "l", Sort: "list"}, {Name: "v", Sort: "box"}, {Name: "lost", Sort: "gone"}, {Name: "late", Sort: "int"}, {Name: "", Sort: ""}}
}

// Random ones.

func pick[T any](r *rand.Rand, l ...T) T { return l[r.Intn(len(l))] }

func someName(r *rand.Rand) string { return pick(r, "n", "m", "k", "p", "l", "v", "late", "x", "y") }

func someNumber(r *rand.Rand) api.Term {
	switch r.Intn(5) {
	case 0:
		return number(int64(r.Intn(9)) - 4)
	case 1:
		return add(name(someName(r)), number(1))
	case 2:
		return app(pick(r, "tag", "cons.0"), name(pick(r, "l", "v")))
	}
	return name(pick(r, "n", "n", "v", "v", someName(r)))
}

// someFormula is one that often is a truth in the world.
func someFormula(r *rand.Rand, size int) api.Term {
	if size > 1 && r.Intn(3) > 0 {
		joined := pick(r, and(), and(), or())
		for range r.Intn(4) {
			joined.Kids = append(joined.Kids, someFormula(r, size/2))
		}
		return joined
	}
	switch r.Intn(9) {
	case 0:
		return not(pick(r, name("p"), yes(), v(), no()))
	case 1:
		return kappa("above", someNumber(r), someNumber(r))
	case 2:
		return pick(r, kappa("none"), kappa("open", someNumber(r)), kappa("value"), equals(kappa("sum", name("n")), v()), most(name("n"), v()), yes())
	case 3:
		return pick(r, kappa("nested"), kappa("lost"), kappa("none", v()), kappa("sum", v()), name("lost"), kids(15), v(), number(3), api.Term{Kind: api.TermNum, Num: api.Int{Neg: true}})
	case 4:
		return equals(someNumber(r), someNumber(r))
	}
	return pick(r, yes(), no(), most(number(0), name("n")), most(someNumber(r), someNumber(r)))
}

// someType is of any shape, and may or may not be well formed.
func someType(r *rand.Rand, size int) api.Type {
	if size <= 1 || r.Intn(4) == 0 {
		return base(pick(r, "int", "int", "int", "bool", "list", pick(r, "box", "", "bare", "gone")), someFormula(r, r.Intn(6)))
	}
	t := fun(someType(r, size-1))
	for i := range r.Intn(4) {
		n := pick(r, someName(r), "f"+strconv.Itoa(i), "g"+strconv.Itoa(i))
		t.Params = append(t.Params, param(n, someType(r, size/2)))
	}
	if r.Intn(40) == 0 {
		return pick(r, oddTypes()...)
	}
	return t
}

// refines are all refinements of a type.
func refines(t api.Type) []api.Term {
	l := []api.Term{t.Refine}
	for _, p := range t.Params {
		l = append(l, refines(p.Type)...)
	}
	for _, result := range t.Result {
		l = append(l, refines(result)...)
	}
	return l
}

// freeIn are the names that stand in the refinements of a type, parameters' names or not.
func freeIn(t api.Type) []string {
	var l []string
	for _, refine := range refines(t) {
		l = append(l, term.Free(refine)...)
	}
	return l
}
