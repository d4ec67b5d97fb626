package term_test

import (
	"math/rand"
	"slices"
	"strconv"
	"testing"

	"whetstone/api"
	"whetstone/term"
)

// put is t with the terms put for the names, in the words of the document.
func put(t api.Term, names []string, terms []api.Term) api.Term {
	for i := min(len(names), len(terms)) - 1; i >= 0 && t.Kind == api.TermVar; i-- {
		if names[i] == t.Name {
			return terms[i]
		}
	}
	made := t
	made.Kids = nil
	for _, kid := range t.Kids {
		made.Kids = append(made.Kids, put(kid, names, terms))
	}
	return made
}

// opened is Expand in the words of the document, but for what is asked of the whole.
func opened(kappas []api.Kappa, t api.Term) (api.Term, api.Errno) {
	made := t
	made.Kids = nil
	for _, kid := range t.Kids {
		a, e := opened(kappas, kid)
		if e != api.OK {
			return api.Term{}, e
		}
		made.Kids = append(made.Kids, a)
	}
	if t.Kind != api.TermKappa {
		return made, api.OK
	}
	i := slices.IndexFunc(kappas, func(k api.Kappa) bool { return k.Name == t.Name })
	if i < 0 {
		return api.Term{}, api.ErrName
	}
	k := kappas[i]
	if len(k.Params) != len(t.Kids) {
		return api.Term{}, api.ErrMany
	}
	if slices.ContainsFunc(parts(k.Body), func(part api.Term) bool { return part.Kind == api.TermKappa }) {
		return api.Term{}, api.ErrSort
	}
	var names []string
	for _, p := range k.Params {
		names = append(names, p.Name)
	}
	made = put(k.Body, names, made.Kids)
	if len(parts(made)) > api.MaxTerm {
		return api.Term{}, api.ErrGrown
	}
	return made, api.OK
}

// P4.3

func TestSubstOfFew(t *testing.T) {
	x, y, z := name("x"), name("y"), name("z")
	laden := api.Term{Kind: api.TermVar, Name: "x", Num: api.Int{Neg: true, Digits: []uint32{0, full}}, Kids: []api.Term{y, y}}
	one := number(1)
	for i, c := range []struct {
		t, want api.Term
		names   []string
		terms   []api.Term
	}{
		{x, one, []string{"x"}, []api.Term{one}}, {y, y, []string{"x"}, []api.Term{one}}, {add(x, y), add(y, x), []string{"y", "x"}, []api.Term{x, y}}, {add(x, y, z), add(y, z, x), []string{"x", "y", "z"}, []api.Term{y, z, x}},
		// What is put in is not looked at again.
		{x, add(x, y), []string{"x", "y"}, []api.Term{add(x, y), one}}, {app("tag", add(x, x)), app("tag", add(app("tag", x), app("tag", x))), []string{"x"}, []api.Term{app("tag", x)}},
		// A name that comes twice.
		{add(x, y), add(z, y), []string{"x", "x"}, []api.Term{one, z}}, {add(x, y), add(y, z), []string{"x", "y", "x"}, []api.Term{one, z, y}},
		// Beyond the other row's end.
		{add(x, y), add(one, y), []string{"x", "y"}, []api.Term{one}}, {add(x, y), add(one, y), []string{"x", "x", "y"}, []api.Term{one}}, {add(x, y), add(one, y), []string{"x"}, []api.Term{one, z, z}},
		{add(x, y), add(one, y), []string{"x", "y", "x"}, []api.Term{one, y}}, {add(x, y), add(x, y), nil, []api.Term{one}}, {add(x, y), add(x, y), []string{"x"}, nil}, {add(x, y), add(x, y), nil, nil},
		// A TermVar with kids, or digits.
		{laden, one, []string{"x"}, []api.Term{one}}, {add(laden, laden), add(y, y), []string{"x"}, []api.Term{y}}, {laden, api.Term{Kind: api.TermVar, Name: "x", Num: laden.Num, Kids: []api.Term{one, one}}, []string{"y"}, []api.Term{one}},
		{add(y, x), add(laden, x), []string{"y"}, []api.Term{laden}}, {y, add(laden, y), []string{"y", "x"}, []api.Term{add(laden, y), one}},
		// Other kinds of the Name.
		{app("x", x), app("x", one), []string{"x"}, []api.Term{one}}, {kappa("x", x, y), kappa("x", one, y), []string{"x"}, []api.Term{one}}, {api.Term{Kind: noKind, Name: "x", Kids: []api.Term{x}}, api.Term{Kind: noKind, Name: "x", Kids: []api.Term{one}}, []string{"x"}, []api.Term{one}},
		{api.Term{Kind: api.TermNum, Name: "x"}, api.Term{Kind: api.TermNum, Name: "x"}, []string{"x"}, []api.Term{one}}, {name(""), one, []string{""}, []api.Term{one}}, {name("X"), name("X"), []string{"x", ""}, []api.Term{one, one}},
		{x, api.Term{}, []string{"x"}, []api.Term{{}}}, {x, api.Term{Kind: api.TermNum, Num: api.Int{Neg: true}}, []string{"x"}, []api.Term{{Kind: api.TermNum, Num: api.Int{Neg: true}}}},
	} {
		got, e := term.Subst(c.t, c.names, c.terms)
		holds(t, got, e, c.want, api.OK, strconv.Itoa(i))
	}
}

func TestSubstOfAnyTerm(t *testing.T) {
	r := rand.New(rand.NewSource(7))
	all, names := someTerms(8, 400), someNames()
	for range 6000 {
		a := all[r.Intn(len(all))]
		var of []string
		var terms []api.Term
		for range r.Intn(5) {
			of = append(of, names[r.Intn(6)])
		}
		for range r.Intn(5) {
			terms = append(terms, all[r.Intn(len(all))])
		}
		got, e := term.Subst(a, of, terms)
		holds(t, got, e, put(a, of, terms), api.OK, of...)
	}
}

func TestSubstTakes20000PartsAndNoMore(t *testing.T) {
	x, y := name("x"), name("y")
	small := []string{"y", "x"}
	for _, c := range []struct {
		what  string
		t     api.Term
		terms []api.Term // for y, x
		size  int
	}{
		{"as it is", wide(20000), nil, 20000},
		{"as it is", wide(20001), nil, 20001},
		{"deep", deep(19999, x), nil, 20000},
		{"deep", deep(20000, x), nil, 20001},
		{"put in", x, []api.Term{y, wide(20000)}, 20000},
		{"put in", x, []api.Term{y, wide(20001)}, 20001},
		{"put in below", not(x), []api.Term{y, wide(19999)}, 20000},
		{"put in below", not(x), []api.Term{y, wide(20000)}, 20001},
		{"both", and(x, y, x), []api.Term{wide(1999), wide(9000)}, 20000},
		{"both", and(x, y, x), []api.Term{wide(2000), wide(9000)}, 20001},
		{"many", and(slices.Repeat([]api.Term{x}, 19999)...), []api.Term{y, truth()}, 20000},
		{"many", and(slices.Repeat([]api.Term{x}, 20000)...), []api.Term{y, truth()}, 20001},
		{"a name that is not there", wide(20000), []api.Term{wide(20001), wide(20001)}, 20000},
		{"a kid that goes", api.Term{Kind: api.TermVar, Name: "x", Kids: []api.Term{wide(30000)}}, []api.Term{y, y}, 1},
		{"kids that go", and(api.Term{Kind: api.TermVar, Name: "x", Kids: []api.Term{wide(15000)}}, api.Term{Kind: api.TermVar, Name: "x", Kids: []api.Term{wide(15000)}}), []api.Term{y, wide(9999)}, 19999},
		{"a kid that stays", api.Term{Kind: api.TermVar, Name: "z", Kids: []api.Term{wide(20000)}}, []api.Term{y, y}, 20001},
		{"very many", and(slices.Repeat([]api.Term{x}, 20000)...), []api.Term{y, wide(20000)}, 20001},
	} {
		got, e := term.Subst(c.t, small, c.terms)
		if c.size > api.MaxTerm {
			holds(t, got, e, api.Term{}, api.ErrGrown, c.what)
			continue
		}
		holds(t, got, e, put(c.t, small, c.terms), api.OK, c.what)
		if len(parts(got)) != c.size {
			t.Error(c.what, len(parts(got)))
		}
	}
}

// P4.4

func params(names ...string) []api.Sorted {
	var l []api.Sorted
	for _, n := range names {
		l = append(l, api.Sorted{Name: n, Sort: "int"})
	}
	return l
}

// someKappas are kappas at which something may turn: of one name, with Params of one name, with a kappa in the body.
func someKappas() []api.Kappa {
	x, y := name("x"), name("y")
	laden := api.Term{Kind: api.TermVar, Name: "x", Kids: []api.Term{y, not(y)}}
	hidden := api.Term{Kind: api.TermVar, Name: "x", Kids: []api.Term{kappa("none")}}
	return []api.Kappa{
		{Name: "true", Body: truth()}, {Name: "one", Params: params("x"), Body: x}, {Name: "both", Params: params("x", "y"), Body: and(y, x, y)}, {Name: "first", Params: params("x", "y"), Body: not(x)},
		{Name: "one", Params: params("x", "y"), Body: equals(x, y)}, {Name: "last", Params: params("x", "x"), Body: not(x)}, {Name: "outside", Params: params("x"), Body: add(x, y, name("z"))},
		{Name: "laden", Params: params("x"), Body: and(laden, y)}, {Name: "other", Params: params("y"), Body: and(laden, y)}, {Name: "within", Params: params("x"), Body: and(x, kappa("true"))},
		{Name: "itself", Body: kappa("itself")}, {Name: "hidden", Params: params("x"), Body: hidden}, {Name: "", Params: params(""), Body: app("tag", name(""))}, {Name: "odd", Params: params("x"), Body: api.Term{Kind: noKind, Name: "x", Kids: []api.Term{x}}},
		{Name: "twice", Params: params("x"), Body: and(x, x)},
	}
}

func TestExpandOfFew(t *testing.T) {
	x, y, z := name("x"), name("y"), name("z")
	one := number(1)
	for i, c := range []struct{ t, want api.Term }{
		{x, x}, {add(x, one), add(x, one)}, {kappa("true"), truth()}, {kappa("one", z), z}, {kappa("both", x, z), and(z, x, z)}, {kappa("both", y, x), and(x, y, x)}, {not(kappa("one", x)), not(x)},
		{kappa("first", one, z), not(one)}, {kappa("last", y, z), not(z)}, {kappa("outside", one), add(one, y, z)}, {kappa("outside", y), add(y, y, z)}, {kappa("outside", add(x, y)), add(add(x, y), y, z)},
		// Kids ahead: a kid's own kappas are put in too, and what was put in is not looked at again.
		{kappa("one", kappa("one", kappa("true"))), truth()}, {kappa("both", kappa("first", x, y), kappa("both", y, z)), and(and(z, y, z), not(x), and(z, y, z))}, {kappa("twice", kappa("twice", x)), and(and(x, x), and(x, x))},
		{and(kappa("one", x), x, kappa("one", y)), and(x, x, y)}, {app("tag", kappa("true")), app("tag", truth())}, {kappa("first", y, kappa("both", x, x)), not(y)},
		// A TermVar with kids goes where it is put for, and stays with them where it is not.
		{kappa("laden", z), and(z, y)}, {kappa("other", z), and(api.Term{Kind: api.TermVar, Name: "x", Kids: []api.Term{z, not(z)}}, z)}, {api.Term{Kind: api.TermVar, Name: "x", Kids: []api.Term{kappa("one", z)}}, api.Term{Kind: api.TermVar, Name: "x", Kids: []api.Term{z}}},
		{kappa("", z), app("tag", z)}, {kappa("odd", z), api.Term{Kind: noKind, Name: "x", Kids: []api.Term{z}}}, {api.Term{Kind: noKind, Kids: []api.Term{kappa("true")}}, api.Term{Kind: noKind, Kids: []api.Term{truth()}}},
		{api.Term{Kind: api.TermKappa, Name: "one", Num: api.Int{Neg: true}, Kids: []api.Term{z}}, z}, {app("one", z), app("one", z)}, {name("true"), name("true")},
	} {
		got, e := term.Expand(someKappas(), c.t)
		holds(t, got, e, c.want, api.OK, strconv.Itoa(i))
	}
}

func TestExpandTellsTheFirstErrorKidsAheadFromTheLeft(t *testing.T) {
	x := name("x")
	none, many, within := kappa("none", x), kappa("one"), kappa("within", x)
	for i, c := range []struct {
		t api.Term
		e api.Errno
	}{
		{none, api.ErrName}, {kappa("One", x), api.ErrName}, {kappa("one "), api.ErrName}, {many, api.ErrMany}, {kappa("one", x, x), api.ErrMany}, {kappa("true", x), api.ErrMany}, {kappa("both", x), api.ErrMany}, {kappa("last", x), api.ErrMany},
		{within, api.ErrSort}, {kappa("itself"), api.ErrSort}, {kappa("hidden", x), api.ErrSort}, {kappa("within"), api.ErrMany}, {kappa("itself", x), api.ErrMany},
		{and(many, none), api.ErrMany}, {and(none, many), api.ErrName}, {and(within, none), api.ErrSort}, {and(x, kappa("true"), many, within), api.ErrMany}, {and(and(within), none), api.ErrSort},
		{kappa("one", none), api.ErrName}, {kappa("none", many), api.ErrMany}, {kappa("one", none, x), api.ErrName}, {kappa("within", many), api.ErrMany}, {kappa("within", none, x), api.ErrName}, {kappa("none", within), api.ErrSort},
		{kappa("first", x, none), api.ErrName}, {kappa("last", many, x), api.ErrMany}, {kappa("last", within, many), api.ErrSort}, {deep(9, and(x, within, none)), api.ErrSort}, {api.Term{Kind: api.TermVar, Name: "x", Kids: []api.Term{none}}, api.ErrName},
		{kappa("none"), api.ErrName}, {kappa("one", kappa("one", kappa("one", kappa("itself")))), api.ErrSort},
	} {
		got, e := term.Expand(someKappas(), c.t)
		holds(t, got, e, api.Term{}, c.e, strconv.Itoa(i))
	}
	if got, e := term.Expand(nil, kappa("true")); e != api.ErrName {
		t.Error(got, e)
	}
	// Of what is not named nothing is asked.
	got, e := term.Expand([]api.Kappa{{Name: "bad", Body: wide(20001)}, {Name: "bad", Body: kappa("bad")}}, x)
	holds(t, got, e, x, api.OK)
}

// greatKappas are kappas of great bodies, and such as make great terms.
func greatKappas() []api.Kappa {
	x := name("x")
	return append(someKappas(),
		api.Kappa{Name: "20000", Body: wide(20000)}, api.Kappa{Name: "20001", Body: wide(20001)}, api.Kappa{Name: "many", Params: params("x"), Body: and(slices.Repeat([]api.Term{x}, 10000)...)}, api.Kappa{Name: "drop", Params: params("x"), Body: truth()},
		api.Kappa{Name: "goes", Params: params("x"), Body: api.Term{Kind: api.TermVar, Name: "x", Kids: []api.Term{wide(30000)}}}, api.Kappa{Name: "within20001", Body: and(kappa("true"), wide(20001))},
		api.Kappa{Name: "named", Params: params("x"), Body: and(slices.Repeat([]api.Term{{Kind: api.TermNum, Name: "x"}}, 19997)...)}, api.Kappa{Name: "below", Params: params("x"), Body: and(api.Term{Kind: noKind, Name: "x", Kids: []api.Term{x, x}}, wide(19996))})
}

func TestExpandTakes20000PartsAndNoMore(t *testing.T) {
	x, great := name("x"), kappa("20000")
	for _, c := range []struct {
		what string
		t    api.Term
		e    api.Errno
	}{
		{"of no kappa", wide(20000), api.OK}, {"of no kappa", wide(20001), api.ErrGrown}, {"of a body", great, api.OK}, {"of a body", kappa("20001"), api.ErrGrown}, {"a kid", kappa("one", wide(20000)), api.OK}, {"a kid", kappa("one", wide(20001)), api.ErrGrown},
		{"kids", kappa("both", x, wide(9999)), api.OK}, {"kids", kappa("both", wide(2), wide(9999)), api.ErrGrown}, {"kids", kappa("many", x), api.OK}, {"kids", kappa("many", not(x)), api.ErrGrown}, {"kids", kappa("twice", kappa("many", x)), api.ErrGrown},
		{"a whole", and(kappa("many", x), kappa("twice", wide(4998))), api.OK}, {"a whole", and(kappa("many", x), kappa("twice", wide(4999)), x), api.ErrGrown}, {"a whole", not(great), api.ErrGrown}, {"a whole", and(great, great), api.ErrGrown},
		{"a kid that is too great and goes", kappa("drop", wide(30000)), api.OK}, {"a kid that is too great and goes", kappa("drop", and(great, great, great)), api.OK}, {"a kid that goes, and could not be made", kappa("drop", kappa("20001")), api.ErrGrown},
		{"kids of a name, which go", kappa("goes", wide(20000)), api.OK}, {"kids of a name, which go", kappa("goes", wide(20001)), api.ErrGrown}, {"one above the other", kappa("drop", kappa("one", and(great, great))), api.ErrGrown},
		{"a name of another kind", and(kappa("named", wide(9)), x), api.OK}, {"a name of another kind", and(kappa("named", wide(9)), x, x), api.ErrGrown}, {"below a name of another kind", kappa("below", x), api.OK}, {"below a name of another kind", kappa("below", not(x)), api.ErrGrown},
		// Of the whole it is asked behind all others.
		{"then a name", and(great, great, kappa("none")), api.ErrName}, {"then kids", and(wide(20001), kappa("one")), api.ErrMany}, {"then a body", and(wide(20001), kappa("itself")), api.ErrSort}, {"then a name", and(wide(20001), kappa("20001"), kappa("none")), api.ErrGrown},
		{"ahead a name", and(kappa("none"), kappa("20001")), api.ErrName}, {"ahead a body", kappa("within20001"), api.ErrSort}, {"ahead kids", kappa("20001", x), api.ErrMany},
		{"very many", and(slices.Repeat([]api.Term{great}, 50000)...), api.ErrGrown}, {"very many, then a name", and(append(slices.Repeat([]api.Term{great}, 50000), kappa("none"))...), api.ErrName},
		{"very many that go", kappa("drop", and(slices.Repeat([]api.Term{great}, 50000)...)), api.OK},
	} {
		got, e := term.Expand(greatKappas(), c.t)
		if c.e != api.OK {
			holds(t, got, e, api.Term{}, c.e, c.what)
			continue
		}
		want := truth()
		if c.t.Name != "drop" {
			want, _ = opened(greatKappas(), c.t)
		}
		holds(t, got, e, want, api.OK, c.what)
	}
}

func TestExpandOfKappasWithinEachOther(t *testing.T) {
	nest := func(k string, depth int) api.Term {
		a := name("x")
		for range depth {
			a = kappa(k, a)
		}
		return a
	}
	got, e := term.Expand(someKappas(), nest("one", 300000))
	holds(t, got, e, name("x"), api.OK)
	got, e = term.Expand(someKappas(), nest("first", 0))
	holds(t, got, e, name("x"), api.OK)
	got, e = term.Expand(someKappas(), nest("twice", 13))
	if e != api.OK || len(parts(got)) != 1<<14-1 {
		t.Error(e, len(parts(got)))
	}
	for _, depth := range []int{14, 60, 70, 100000} {
		got, e = term.Expand(someKappas(), nest("twice", depth))
		holds(t, got, e, api.Term{}, api.ErrGrown)
	}
	// What comes in often is not made anew from the kappas each time.
	got, e = term.Expand(greatKappas(), kappa("many", nest("one", 100000)))
	holds(t, got, e, and(slices.Repeat([]api.Term{name("x")}, 10000)...), api.OK)
}

// someOpening is a term with kappas of someKappas, most of them as they should be, in a part of it.
func someOpening(r *rand.Rand, size int) api.Term {
	all := someKappas()
	if r.Intn(5) == 0 || size <= 1 {
		return someTerm(r, min(size, 4))
	}
	if r.Intn(3) == 0 {
		return and(someOpening(r, size/2), someOpening(r, size/2))
	}
	k := all[r.Intn(len(all))]
	if r.Intn(3) > 0 {
		k = all[r.Intn(4)]
	}
	a := kappa(k.Name)
	for range k.Params {
		a.Kids = append(a.Kids, someOpening(r, size/max(1, len(k.Params))-1))
	}
	return a
}

func TestExpandOfAnyTerm(t *testing.T) {
	r := rand.New(rand.NewSource(9))
	told := map[api.Errno]int{}
	for range 12000 {
		kappas := someKappas()
		kappas[r.Intn(len(kappas))].Body = someTerm(r, 6)
		a := someOpening(r, 1+r.Intn(20))
		want, wantE := opened(kappas, a)
		got, e := term.Expand(kappas, a)
		holds(t, got, e, want, wantE)
		told[e]++
	}
	if told[api.OK] < 1000 || told[api.ErrName] < 200 || told[api.ErrMany] < 200 || told[api.ErrSort] < 200 {
		t.Error(told)
	}
}
