package term_test

import (
	"math/rand"
	"slices"
	"testing"

	"whetstone/api"
	"whetstone/num"
	"whetstone/term"
)

// P4.2

// sorted fails, unless the sort of a in row is want.
func sorted(t *testing.T, a api.Term, want string, wantE api.Errno) {
	t.Helper()
	if got, e := term.Sort(world(), row(), a); got != want || e != wantE {
		t.Errorf("%q %v, not %q %v:%s", got, e, want, wantE, short(a))
	}
}

func TestSortOfEachKind(t *testing.T) {
	n, p, l, q := name("n"), name("p"), name("l"), name("q")
	for _, c := range []struct {
		t    api.Term
		want string
	}{
		{n, "int"}, {p, "bool"}, {l, "list"}, {q, "pair"}, {name(""), "int"}, {name("e"), ""}, {name("twice"), "list"}, {number(0), "int"}, {number(-7), "int"}, {truth(), "bool"}, {kids(api.TermFalse), "bool"},
		{add(), "int"}, {add(n), "int"}, {add(n, number(1), add(n)), "int"}, {scaled(0, n), "int"}, {scaled(-3, add(n, n)), "int"},
		{app("tag", l), "int"}, {app("tag", q), "int"}, {app("tag", name("many")), "int"}, {app("tag", name("e")), "int"}, {app("tag", name("bare")), "int"},
		{app("CONS.0", l), "int"}, {app("CONS.1", l), "list"}, {app("CONS.0", app("CONS.1", app("PAIR.0", q))), "int"}, {app("PAIR.1", q), "bool"}, {app("PAIR.3", q), ""}, {app(".0", name("e")), ""},
		{app("A.1.1", q), "list"}, {app("LATE.0", l), "list"}, {app("MANY.9", name("many")), "int"},
		{equals(n, number(3)), "bool"}, {equals(l, name("k")), "bool"}, {equals(q, q), "bool"}, {equals(name("e"), name("e")), "bool"}, {below(n, name("m")), "bool"},
		{not(p), "bool"}, {and(), "bool"}, {and(p, below(n, n), not(p)), "bool"}, {kids(api.TermOr), "bool"}, {kids(api.TermOr, p), "bool"}, {kids(api.TermIff, p, app("PAIR.1", q)), "bool"},
	} {
		sorted(t, c.t, c.want, api.OK)
	}
}

func TestSortOfOtherSortsIsErrSort(t *testing.T) {
	n, p, l, q, e := name("n"), name("p"), name("l"), name("q"), name("e")
	for _, a := range []api.Term{
		name("lost"), add(p), add(n, n, l), scaled(2, p), scaled(2, l), equals(p, p), equals(n, p), equals(p, n), equals(l, n), equals(n, l), equals(l, q), equals(e, l),
		below(p, n), below(n, p), below(l, l), below(p, p), not(n), not(l), and(p, n), and(l), kids(api.TermOr, n, p), kids(api.TermIff, n, n), kids(api.TermIff, p, n), kids(api.TermIff, l, l), kids(api.TermIff, n, p),
		app("tag", n), app("tag", p), app("CONS.0", q), app("CONS.0", n), app("PAIR.0", l), app("CONS.2", l), app("NIL.0", l), app("NIL.0", q), app("", l), app("LIST.0", l), app("list", l),
		app("INT.0", n), app("BOOL.0", p), app("PAIR.2", q), app(".0", l), app(".0", n), app("MANY.10", name("many")), app("CONS.0", e),
	} {
		sorted(t, a, "", api.ErrSort)
	}
	// A data that is not there, or is named as a sort that there is.
	for _, sort := range []string{"none", "List", "NIL", " ", "int ", "boolean"} {
		if got, e := term.Sort(world(), []api.Sorted{{Name: "n", Sort: sort}}, n); got != "" || e != api.ErrSort {
			t.Error(sort, got, e)
		}
	}
	if got, e := term.Sort(nil, row(), l); got != "" || e != api.ErrSort {
		t.Error(got, e)
	}
}

func TestSortOfOtherNamesIsErrName(t *testing.T) {
	for _, a := range []api.Term{name("N"), name("n "), name("int"), name("NIL"), add(name("n"), name("w")), app("tag", name("w"))} {
		sorted(t, a, "", api.ErrName)
	}
	if got, e := term.Sort(world(), nil, name("")); got != "" || e != api.ErrName {
		t.Error(got, e)
	}
}

func TestSortOfTheLastOneOfAName(t *testing.T) {
	for i, c := range []struct {
		scope []string
		want  string
		e     api.Errno
	}{
		{[]string{"int", "bool"}, "bool", api.OK}, {[]string{"bool", "none", "int"}, "int", api.OK}, {[]string{"int", "none"}, "", api.ErrSort}, {[]string{"int", "list", "list"}, "list", api.OK},
	} {
		var scope []api.Sorted
		for _, sort := range c.scope {
			scope = append(scope, api.Sorted{Name: "x", Sort: sort}, api.Sorted{Name: "y", Sort: "none"})
		}
		if got, e := term.Sort(world(), scope, name("x")); got != c.want || e != c.e {
			t.Error(i, got, e)
		}
	}
}

// fitting is how many kids a kind has at least and at most, and of which sort they are; of no kind -1.
func fitting(kind api.TermKind) (least, most int, sort string) {
	switch kind {
	case api.TermVar, api.TermNum, api.TermTrue, api.TermFalse:
		return 0, 0, ""
	case api.TermScale:
		return 1, 1, "n"
	case api.TermApp:
		return 1, 1, "l"
	case api.TermNot:
		return 1, 1, "p"
	case api.TermEq, api.TermLe:
		return 2, 2, "n"
	case api.TermIff:
		return 2, 2, "p"
	case api.TermAdd:
		return 0, 9, "n"
	case api.TermAnd, api.TermOr:
		return 0, 9, "p"
	}
	return -1, -1, ""
}

func TestSortOfTooFewAndTooManyKidsIsErrMany(t *testing.T) {
	for kind := range 256 {
		least, most, sort := fitting(api.TermKind(kind))
		for n := range 6 {
			for _, kid := range []api.Term{name(sort), name("w"), number(1), kids(noKind)} {
				a := api.Term{Kind: api.TermKind(kind), Name: "n", Kids: slices.Repeat([]api.Term{kid}, n)}
				if kind == int(api.TermApp) {
					a.Name = "CONS.0"
				}
				_, e := term.Sort(world(), row(), a)
				switch {
				case least < 0:
					if e != api.ErrSort {
						t.Error(kind, n, e)
					}
				case n < least || n > most:
					if e != api.ErrMany {
						t.Error(kind, n, e)
					}
				case e == api.ErrMany || e != api.OK && (n == 0 || kid.Name == sort):
					t.Error(kind, n, e)
				}
			}
		}
	}
}

func TestSortOfNumbersThatAreNotRightIsErrSort(t *testing.T) {
	for _, wrong := range wrongNumbers() {
		a := api.Term{Kind: api.TermNum, Num: wrong}
		sorted(t, a, "", api.ErrSort)
		sorted(t, add(number(1), a), "", api.ErrSort)
		sorted(t, api.Term{Kind: api.TermScale, Num: wrong, Kids: []api.Term{name("n")}}, "", api.ErrSort)
		// Of no other kind a number is asked.
		for _, b := range []api.Term{name("n"), truth(), add(), and(), app("tag", name("l")), equals(name("n"), name("n")), below(name("n"), name("n")), not(name("p"))} {
			want, _ := term.Sort(world(), row(), b)
			b.Num = wrong
			sorted(t, b, want, api.OK)
		}
	}
}

func TestSortTellsTheFirstErrorKidsAheadFromTheLeft(t *testing.T) {
	n, p, w := name("n"), name("p"), name("w")
	many, other := not(), kids(noKind)
	wrong := api.Term{Kind: api.TermNum, Num: api.Int{Neg: true}}
	scale := func(l ...api.Term) api.Term { return api.Term{Kind: api.TermScale, Num: api.Int{Neg: true}, Kids: l} }
	for _, c := range []struct {
		t api.Term
		e api.Errno
	}{
		{add(w, many), api.ErrName}, {add(many, w), api.ErrMany}, {add(other, w), api.ErrSort}, {add(p, w), api.ErrName}, {add(p, many), api.ErrMany}, {and(n, n, w), api.ErrName}, {and(not(n), w), api.ErrSort},
		{equals(n, p), api.ErrSort}, {equals(not(n), w), api.ErrSort}, {equals(p, w), api.ErrName}, {equals(w), api.ErrMany}, {equals(w, n, n), api.ErrMany}, {app("none", w), api.ErrName}, {app("none", w, w), api.ErrMany}, {app("none"), api.ErrMany},
		{kids(noKind, w), api.ErrSort}, {kappa("K", w), api.ErrSort}, {kappa("K", many), api.ErrSort}, {kids(noKind, many), api.ErrSort}, {kids(0, w), api.ErrSort}, {and(w, kids(noKind)), api.ErrName},
		{scale(w), api.ErrSort}, {scale(many), api.ErrSort}, {scale(), api.ErrMany}, {scale(w, w), api.ErrMany}, {api.Term{Kind: api.TermNum, Num: api.Int{Neg: true}, Kids: []api.Term{w}}, api.ErrMany},
		{add(wrong, w), api.ErrSort}, {add(w, wrong), api.ErrName}, {name("lost"), api.ErrSort}, {add(name("lost"), w), api.ErrSort}, {below(w, name("lost")), api.ErrName}, {and(and(and(n), w), many), api.ErrSort},
		{and(and(and(p), w), many), api.ErrName}, {api.Term{Kind: api.TermVar, Name: "w", Kids: []api.Term{n}}, api.ErrMany}, {deep(9, add(p, w)), api.ErrName}, {deep(9, n), api.ErrSort},
	} {
		sorted(t, c.t, "", c.e)
	}
}

// sortOf is Sort in the words of the document.
func sortOf(datas []api.Data, scope []api.Sorted, t api.Term) (string, api.Errno) {
	least, most, _ := fitting(t.Kind)
	if least < 0 {
		return "", api.ErrSort
	}
	if len(t.Kids) < least || len(t.Kids) > most && most < 9 {
		return "", api.ErrMany
	}
	if (t.Kind == api.TermNum || t.Kind == api.TermScale) && !num.Right(t.Num) {
		return "", api.ErrSort
	}
	var l []string
	for _, kid := range t.Kids {
		sort, e := sortOf(datas, scope, kid)
		if e != api.OK {
			return "", e
		}
		l = append(l, sort)
	}
	isData := func(sort string) bool {
		return sort != "int" && sort != "bool" && slices.ContainsFunc(datas, func(d api.Data) bool { return d.Name == sort })
	}
	isSort := func(sort string) bool { return sort == "int" || sort == "bool" || isData(sort) }
	all := func(sort string) bool { return !slices.ContainsFunc(l, func(s string) bool { return s != sort }) }
	told, ok := "bool", true
	switch t.Kind {
	case api.TermVar:
		i := len(scope) - 1
		for i >= 0 && scope[i].Name != t.Name {
			i--
		}
		if i < 0 {
			return "", api.ErrName
		}
		told, ok = scope[i].Sort, isSort(scope[i].Sort)
	case api.TermNum:
		told = "int"
	case api.TermAdd, api.TermScale:
		told, ok = "int", all("int")
	case api.TermApp:
		from, to, there := term.Function(datas, t.Name)
		told, ok = to, there && isSort(to) && isData(l[0]) && (t.Name == "tag" || l[0] == from)
	case api.TermEq:
		ok = all("int") || all(l[0]) && isData(l[0])
	case api.TermLe:
		ok = all("int")
	default:
		ok = all("bool")
	}
	if !ok {
		return "", api.ErrSort
	}
	return told, api.OK
}

// someLeaves are terms of all sorts, some of them wrong.
func someLeaves() []api.Term {
	return []api.Term{name("n"), number(2), name("p"), truth(), name("l"), name("k"), name("q"), name("e"), name("w"), name("lost"), not(), kids(noKind), kappa("K"), {Kind: api.TermNum, Num: api.Int{Neg: true}}}
}

func TestSortOfAllSmallTerms(t *testing.T) {
	leaves := someLeaves()
	var rows [][]api.Term
	for _, a := range leaves {
		rows = append(rows, []api.Term{a})
		for _, b := range leaves {
			rows = append(rows, []api.Term{a, b}, []api.Term{a, a, b})
		}
	}
	for _, f := range []string{"", "tag", "CONS.0", "CONS.1", "PAIR.1", "PAIR.2", ".0", "n"} {
		for kind := range api.TermKind(noKind + 1) {
			for _, l := range append(rows, nil) {
				a := api.Term{Kind: kind, Name: f, Kids: l}
				want, e := sortOf(world(), row(), a)
				sorted(t, a, want, e)
			}
		}
	}
}

// ofSort is a term of a sort, of about so many parts.
func ofSort(r *rand.Rand, sort string, size int) api.Term {
	some := []string{"int", "list", "pair"}[r.Intn(3)]
	one := func(s string) api.Term { return ofSort(r, s, size-1) }
	two := func(s string) []api.Term { return []api.Term{ofSort(r, s, size/2), ofSort(r, s, size/2)} }
	ways := map[string][]func() api.Term{
		"int": {
			func() api.Term { return []api.Term{name("n"), number(3)}[r.Intn(2)] }, func() api.Term { return add(two("int")...) }, func() api.Term { return scaled(r.Int63n(5), one("int")) },
			func() api.Term { return app("tag", one("list")) }, func() api.Term { return app("CONS.0", one("list")) }, func() api.Term { return app("tag", one("pair")) },
		},
		"list": {
			func() api.Term { return []api.Term{name("l"), name("k"), name("twice")}[r.Intn(3)] }, func() api.Term { return app("CONS.1", one("list")) }, func() api.Term { return app("PAIR.0", one("pair")) },
		},
		"pair": {
			func() api.Term { return name("q") }, func() api.Term { return app("A.1.0", one("pair")) },
		},
		"bool": {
			func() api.Term { return []api.Term{name("p"), truth()}[r.Intn(2)] }, func() api.Term { return equals(two(some)...) }, func() api.Term { return below(two("int")...) }, func() api.Term { return not(one("bool")) },
			func() api.Term { return and(two("bool")...) }, func() api.Term { return kids(api.TermOr, two("bool")...) }, func() api.Term { return kids(api.TermIff, two("bool")...) }, func() api.Term { return app("PAIR.1", one("pair")) },
		},
	}[sort]
	if size <= 1 {
		return ways[0]()
	}
	return ways[r.Intn(len(ways))]()
}

// turned is a with one part changed about.
func turned(r *rand.Rand, a api.Term) api.Term {
	if len(a.Kids) > 0 && r.Intn(4) > 0 {
		a.Kids = slices.Clone(a.Kids)
		i := r.Intn(len(a.Kids))
		a.Kids[i] = turned(r, a.Kids[i])
		return a
	}
	leaves := someLeaves()
	switch r.Intn(4) {
	case 0:
		a.Kind = api.TermKind(r.Intn(noKind + 1))
	case 1:
		a.Kids = append(slices.Clone(a.Kids), leaves[r.Intn(len(leaves))])
	case 2:
		a.Num = wrongNumbers()[r.Intn(4)]
	default:
		a = leaves[r.Intn(len(leaves))]
	}
	return a
}

func TestSortOfAnyTerm(t *testing.T) {
	r := rand.New(rand.NewSource(5))
	told := map[api.Errno]int{}
	for range 4000 {
		sort := []string{"int", "bool", "list", "pair"}[r.Intn(4)]
		a := ofSort(r, sort, 1+r.Intn(25))
		sorted(t, a, sort, api.OK)
		for range 3 {
			a = turned(r, a)
			want, e := sortOf(world(), row(), a)
			sorted(t, a, want, e)
			told[e]++
		}
	}
	if told[api.OK] < 500 || told[api.ErrSort] < 500 || told[api.ErrMany] < 500 || told[api.ErrName] < 100 {
		t.Error(told)
	}
	for _, a := range someTerms(6, 1000) {
		want, e := sortOf(world(), row(), a)
		sorted(t, a, want, e)
	}
}
