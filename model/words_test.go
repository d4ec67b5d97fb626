package model_test

import (
	"math/rand"
	"slices"
	"strings"
	"testing"

	"whetstone/api"
	"whetstone/model"
	"whetstone/num"
	"whetstone/term"
)

// Of and Eval in the words of the document, and held against these.

func isDataSort(datas []api.Data, sort string) bool {
	return sort != "int" && sort != "bool" && slices.ContainsFunc(datas, func(d api.Data) bool { return d.Name == sort })
}

// constructorOf is the first data that has a constructor of that name, and the place of the first one there.
func constructorOf(datas []api.Data, con string) (data, place int) {
	for i, d := range datas {
		for j, c := range d.Cons {
			if c.Name == con {
				return i, j
			}
		}
	}
	return -1, -1
}

func isOf(datas []api.Data, sort string, v api.Value) bool {
	numbered, named, fields := len(v.Num.Digits) > 0 || v.Num.Neg, v.Name != "", len(v.Fields) > 0
	switch v.Kind {
	case api.ValueInt:
		return sort == "int" && num.Right(v.Num) && !v.Truth && !named && !fields
	case api.ValueBool:
		return sort == "bool" && !numbered && !named && !fields
	case api.ValueData:
		if !isDataSort(datas, sort) || numbered || v.Truth {
			return false
		}
		if !named {
			return !fields
		}
		i, j := constructorOf(datas, v.Name)
		if i < 0 || datas[i].Name != sort || len(v.Fields) != len(datas[i].Cons[j].Fields) {
			return false
		}
		for k, field := range datas[i].Cons[j].Fields {
			if !isOf(datas, field, v.Fields[k]) {
				return false
			}
		}
		return true
	}
	return false
}

// isValue tells whether v is of int, of bool or of a data's sort.
func isValue(datas []api.Data, v api.Value) bool {
	if isOf(datas, "int", v) || isOf(datas, "bool", v) {
		return true
	}
	return slices.ContainsFunc(datas, func(d api.Data) bool { return isOf(datas, d.Name, v) })
}

// table is how many kids each kind has, at least and at most, and what they are of; 0 is of what the kind asks by itself.
func table() map[api.TermKind]struct {
	least, most int
	of          api.ValueKind
} {
	return map[api.TermKind]struct {
		least, most int
		of          api.ValueKind
	}{
		api.TermVar: {0, 0, 0}, api.TermNum: {0, 0, 0}, api.TermTrue: {0, 0, 0}, api.TermFalse: {0, 0, 0},
		api.TermAdd: {0, 1 << 30, api.ValueInt}, api.TermScale: {1, 1, api.ValueInt}, api.TermApp: {1, 1, api.ValueData},
		api.TermEq: {2, 2, 0}, api.TermLe: {2, 2, api.ValueInt}, api.TermNot: {1, 1, api.ValueBool},
		api.TermAnd: {0, 1 << 30, api.ValueBool}, api.TermOr: {0, 1 << 30, api.ValueBool}, api.TermIff: {2, 2, api.ValueBool},
	}
}

func reckon(datas []api.Data, bounds []api.Bound, t api.Term) (api.Value, api.Errno) {
	kind, known := table()[t.Kind]
	if !known {
		return api.Value{}, api.ErrSort
	}
	if len(t.Kids) < kind.least || len(t.Kids) > kind.most {
		return api.Value{}, api.ErrMany
	}
	var l []api.Value
	for _, kid := range t.Kids {
		v, e := reckon(datas, bounds, kid)
		if e != api.OK {
			return api.Value{}, e
		}
		l = append(l, v)
	}
	for _, v := range l {
		if kind.of != 0 && v.Kind != kind.of {
			return api.Value{}, api.ErrSort
		}
	}
	switch t.Kind {
	case api.TermVar:
		for i := len(bounds) - 1; i >= 0; i-- {
			if bounds[i].Name == t.Name {
				if !isValue(datas, bounds[i].Value) {
					return api.Value{}, api.ErrSort
				}
				return bounds[i].Value, api.OK
			}
		}
		return api.Value{}, api.ErrName
	case api.TermNum, api.TermScale:
		if !num.Right(t.Num) {
			return api.Value{}, api.ErrSort
		}
		product := t.Num
		for _, v := range l {
			product = num.Mul(product, v.Num)
		}
		return api.Value{Kind: api.ValueInt, Num: product}, api.OK
	case api.TermAdd:
		sum := integer(0)
		for _, v := range l {
			sum.Num = num.Add(sum.Num, v.Num)
		}
		return sum, api.OK
	case api.TermApp:
		return reckonFunction(datas, t.Name, l[0])
	case api.TermEq:
		if l[0].Kind != l[1].Kind || l[0].Kind == api.ValueBool {
			return api.Value{}, api.ErrSort
		}
		return truth(same(l[0], l[1])), api.OK
	case api.TermLe:
		return truth(num.Cmp(l[0].Num, l[1].Num) < 1), api.OK
	case api.TermNot:
		return truth(!l[0].Truth), api.OK
	case api.TermIff:
		return truth(l[0].Truth == l[1].Truth), api.OK
	}
	trues := 0
	for _, v := range l {
		if v.Truth {
			trues++
		}
	}
	return truth(t.Kind == api.TermTrue || t.Kind == api.TermAnd && trues == len(l) || t.Kind == api.TermOr && trues > 0), api.OK
}

// reckonFunction is the function of that name of v, which is data.
func reckonFunction(datas []api.Data, function string, v api.Value) (api.Value, api.Errno) {
	i, place := constructorOf(datas, v.Name)
	if function == "tag" {
		if v.Name == "" {
			place = -1
		}
		return integer(int64(place)), api.OK
	}
	point := strings.LastIndexByte(function, '.')
	if point < 0 || len(function) != point+2 || function[point+1] < '0' || function[point+1] > '9' {
		return api.Value{}, api.ErrSort
	}
	d, c := constructorOf(datas, function[:point])
	field := int(function[point+1]) - '0'
	if d < 0 || len(datas[d].Cons[c].Fields) <= field || v.Name != "" && datas[i].Name != datas[d].Name {
		return api.Value{}, api.ErrSort
	}
	if v.Name != "" && v.Name == function[:point] {
		return v.Fields[field], api.OK
	}
	switch datas[d].Cons[c].Fields[field] {
	case "int":
		return integer(0), api.OK
	case "bool":
		return truth(false), api.OK
	}
	return nothing(), api.OK
}

// author makes terms of the sorts of the world; one of so many of their parts is wrong (none, if it is 0).
type author struct {
	*rand.Rand
	wrong int
}

func (r author) term(sort string, size int) api.Term {
	if r.wrong > 0 && r.Intn(r.wrong) == 0 {
		return r.odd(sort, size)
	}
	if size <= 1 {
		return r.leaf(sort)
	}
	kid := func(sort string) api.Term { return r.term(sort, size/2) }
	several := func(kind api.TermKind, sort string) api.Term {
		t := kids(kind)
		for n := r.Intn(4); n > 0; n-- {
			t.Kids = append(t.Kids, r.term(sort, size/3))
		}
		return t
	}
	switch sort {
	case "int":
		return []func() api.Term{
			func() api.Term { return several(api.TermAdd, "int") },
			func() api.Term {
				return api.Term{Kind: api.TermScale, Num: someNumber(r.Rand), Kids: []api.Term{kid("int")}}
			},
			func() api.Term { return app("tag", kid(pick(r.Rand, dataSorts()...))) },
			func() api.Term { return app("CONS.0", kid("list")) },
			func() api.Term { return app("PAIR.2", kid("pair")) },
			func() api.Term { return app("MANY."+string(rune('0'+r.Intn(10))), kid("many")) },
			func() api.Term { return app(".0", kid("")) },
			func() api.Term { return app("LATE.1", kid("list")) },
		}[r.Intn(8)]()
	case "bool":
		return []func() api.Term{
			func() api.Term { return equals(kid("int"), kid("int")) },
			func() api.Term { sort := pick(r.Rand, dataSorts()...); return equals(kid(sort), kid(sort)) },
			func() api.Term { return below(kid("int"), kid("int")) },
			func() api.Term { return not(kid("bool")) },
			func() api.Term { return several(api.TermAnd, "bool") },
			func() api.Term { return several(api.TermOr, "bool") },
			func() api.Term { return iff(kid("bool"), kid("bool")) },
			func() api.Term { return app("PAIR.1", kid("pair")) },
			func() api.Term { return app("A.1.0", kid("pair")) },
		}[r.Intn(9)]()
	case "list":
		f := pick(r.Rand, "CONS.1", "LATE.0", "PAIR.0", "A.1.1")
		return app(f, kid(map[string]string{"CONS.1": "list", "LATE.0": "list", "PAIR.0": "pair", "A.1.1": "pair"}[f]))
	case "pair":
		return app("PAIR.3", kid("pair"))
	case "":
		return app(pick(r.Rand, ".1", "EMPTY.0"), kid(""))
	}
	return r.leaf(sort)
}

// leaf is a name of that sort, or what stands for itself.
func (r author) leaf(sort string) api.Term {
	switch {
	case sort == "int" && r.Intn(2) == 0:
		return api.Term{Kind: api.TermNum, Num: someNumber(r.Rand)}
	case sort == "bool" && r.Intn(2) == 0:
		return pick(r.Rand, yes(), no())
	}
	return name(pick(r.Rand, map[string][]string{
		"int": {"n", "m", "z", "", "twice", "any int"}, "bool": {"p", "q", "any bool"}, "list": {"nil", "l", "k", "late", "early", "none", "any list"}, "pair": {"pair", "a1", "none", "any pair"},
		"many": {"many", "none", "any many"}, "": {"empty", "none", "any "}, "bare": {"none", "any bare"},
	}[sort]...))
}

// odd is a term that is not as it should be, or that is.
func (r author) odd(sort string, size int) api.Term {
	sorts := append(dataSorts(), "int", "bool")
	switch r.Intn(8) {
	case 0:
		return name(pick(r.Rand, "x", "N", "wrong", "int"))
	case 1:
		return name(pick(r.Rand, "Wrong", "Int", "Bool", "Kind", "Short"))
	case 2:
		return r.term(pick(r.Rand, sorts...), size/2)
	case 3:
		t := r.term(sort, size)
		t.Kids = append(t.Kids, r.term(pick(r.Rand, sorts...), size/3))
		return t
	case 4:
		t := r.term(sort, size)
		t.Kids = t.Kids[:len(t.Kids)/2]
		return t
	case 5:
		t := r.term(sort, size)
		t.Kind = api.TermKind(r.Intn(noKind + 2))
		return t
	case 6:
		return app(pick(r.Rand, "Tag", "CONS.2", "NIL.0", "LOST.1", "INT.0", "BOOL.0", "MANY.10", "CONS", "", "LATE.0", "PAIR.0", ".0", ".1", "EMPTY.0"), r.term(pick(r.Rand, sorts...), size/2))
	}
	t := r.term(sort, size)
	t.Num = pick(r.Rand, wrongNumbers()...)
	return t
}

// bounds are the row, and a name of each sort that stands for some value of it.
func (r author) bounds() []api.Bound {
	l := row()
	for _, sort := range append(dataSorts(), "int", "bool") {
		l = append(l, api.Bound{Name: "any " + sort, Value: someValue(r.Rand, sort, 12)})
	}
	r.Shuffle(len(l)-10, func(i, j int) { l[i+10], l[j+10] = l[j+10], l[i+10] })
	return l
}

func TestEvalInTheWordsOfTheDocument(t *testing.T) {
	r := author{rand.New(rand.NewSource(3)), 30}
	told := map[api.Errno]int{}
	for range 40000 {
		bounds, a := r.bounds(), r.term(pick(r.Rand, "int", "bool", "bool", "list", "pair"), 1+r.Intn(60))
		want, wantE := reckon(world(), bounds, a)
		got, e := model.Eval(world(), bounds, a)
		holds(t, got, e, want, wantE, shortTerm(a))
		told[e]++
	}
	if told[api.OK] < 5000 || told[api.ErrName] < 500 || told[api.ErrSort] < 2000 || told[api.ErrMany] < 1000 {
		t.Error(told)
	}
}

// P5.3

// scope is of what sorts the bounds of an author are.
func scope() []api.Sorted {
	l := []api.Sorted{
		{Name: "n", Sort: "int"}, {Name: "m", Sort: "int"}, {Name: "z", Sort: "int"}, {Name: "", Sort: "int"}, {Name: "twice", Sort: "int"}, {Name: "p", Sort: "bool"}, {Name: "q", Sort: "bool"},
		{Name: "nil", Sort: "list"}, {Name: "l", Sort: "list"}, {Name: "k", Sort: "list"}, {Name: "late", Sort: "list"}, {Name: "early", Sort: "list"},
		{Name: "pair", Sort: "pair"}, {Name: "a1", Sort: "pair"}, {Name: "many", Sort: "many"}, {Name: "empty", Sort: ""},
	}
	for _, sort := range append(dataSorts(), "int", "bool") {
		l = append(l, api.Sorted{Name: "any " + sort, Sort: sort})
	}
	return l
}

func TestATermOfASortComesToAValueOfThatSort(t *testing.T) {
	r := author{rand.New(rand.NewSource(4)), 150}
	told := map[string]int{}
	for range 15000 {
		bounds, a := r.bounds(), r.term(pick(r.Rand, append(dataSorts(), "int", "bool")...), 1+r.Intn(40))
		none := api.Sorted{Name: "none", Sort: pick(r.Rand, dataSorts()...)}
		sort, e := term.Sort(world(), append(scope(), none), a)
		if e != api.OK {
			continue
		}
		got, e := model.Eval(world(), bounds, a)
		if e != api.OK || !model.Of(world(), sort, got) {
			t.Fatal(shortTerm(a), sort, short(got), e)
		}
		told[sort]++
	}
	for _, sort := range append(dataSorts(), "int", "bool") {
		if told[sort] < 300 {
			t.Error(told)
		}
	}
}
