package cong_test

import (
	"math/rand"
	"slices"
	"testing"

	"whetstone/api"
	"whetstone/cong"
	"whetstone/model"
	"whetstone/num"
)

// P8.3

// trees are datas, and constructors, with names of their own.
func trees() []api.Data {
	return []api.Data{
		{Name: "tree", Cons: []api.Con{{Name: "LEAF"}, {Name: "FORK", Fields: []string{"tree", "int", "bool", "pot"}}}},
		{Name: "pot", Cons: []api.Con{{Name: "POT", Fields: []string{"tree", "bool", "int"}}}},
	}
}

func inTrees() []api.Sorted {
	return []api.Sorted{
		{Name: "n", Sort: "int"}, {Name: "m", Sort: "int"}, {Name: "s", Sort: "tree"}, {Name: "t", Sort: "tree"}, {Name: "u", Sort: "tree"},
		{Name: "o", Sort: "pot"}, {Name: "i", Sort: "pot"}, {Name: "p", Sort: "bool"},
	}
}

// someValue is one of that sort; small, so that values are often the same.
func someValue(r *rand.Rand, sort string, size int) api.Value {
	if sort == api.SortInt {
		return api.Value{Kind: api.ValueInt, Num: num.Of(int64(r.Intn(3)))}
	}
	if sort == api.SortBool {
		return api.Value{Kind: api.ValueBool, Truth: r.Intn(2) == 0}
	}
	v := api.Value{Kind: api.ValueData}
	if size <= 0 || r.Intn(6) == 0 {
		return v
	}
	place := slices.IndexFunc(trees(), func(d api.Data) bool { return d.Name == sort })
	con := pick(r, trees()[place].Cons...)
	v.Name = con.Name
	for _, field := range con.Fields {
		v.Fields = append(v.Fields, someValue(r, field, size-2))
	}
	return v
}

func someBounds(r *rand.Rand) []api.Bound {
	var l []api.Bound
	for _, s := range inTrees() {
		l = append(l, api.Bound{Name: s.Name, Value: someValue(r, s.Sort, 3)})
	}
	return l
}

func someOf(r *rand.Rand, sort string, size int) api.Term {
	leaf := size <= 0 || r.Intn(3) == 0
	switch {
	case sort == "int" && leaf:
		return pick(r, name("n"), name("m"), number(int64(r.Intn(3))))
	case sort == "int":
		a := someOf(r, "tree", size-1)
		return pick(r, add(someOf(r, "int", size-1), number(1)), app("tag", a), app("FORK.1", a), app("POT.2", someOf(r, "pot", size-1)))
	case sort == "tree" && leaf:
		return pick(r, name("s"), name("t"), name("u"))
	case sort == "tree":
		return pick(r, app("FORK.0", someOf(r, "tree", size-1)), app("POT.0", someOf(r, "pot", size-1)))
	case leaf:
		return pick(r, name("o"), name("i"))
	}
	return app("FORK.3", someOf(r, "tree", size-1))
}

// comes is whether t comes to true there; it has to come to a truth.
func comes(t *testing.T, bounds []api.Bound, a api.Term) bool {
	t.Helper()
	v, e := model.Eval(trees(), bounds, a)
	if e != api.OK || v.Kind != api.ValueBool {
		t.Fatal(e, short(a))
	}
	return v.Truth
}

// someTruths are equalities that come to true there, and what stands in them.
func someTruths(t *testing.T, r *rand.Rand, bounds []api.Bound) (facts, sides []api.Term) {
	t.Helper()
	for range 8 {
		sort := pick(r, "int", "tree", "tree", "tree", "pot")
		a, b := someOf(r, sort, 2), someOf(r, sort, 2)
		sides = append(sides, a, b)
		if comes(t, bounds, equals(a, b)) {
			facts = append(facts, equals(a, b))
		}
	}
	return facts, sides
}

func TestWhatIsToldComesToTrueWhereAllFactsDo(t *testing.T) {
	r := rand.New(rand.NewSource(3))
	same, applied, truths := 0, 0, 0
	for range 6000 {
		bounds := someBounds(r)
		facts, sides := someTruths(t, r, bounds)
		if len(facts) == 0 {
			continue
		}
		a := pick(r, sides...)
		at, b := someWalk(r, facts, a)
		if r.Intn(4) == 0 {
			b = pick(r, sides...)
		}
		if told, e := cong.Same(facts, a, b, at...); e == api.OK {
			same += len(at)
			if !comes(t, bounds, told) {
				t.Fatal(at, shorts(facts...), short(told))
			}
		}
		for i := range facts {
			for _, f := range []string{"tag", "FORK.0", "FORK.1", "FORK.2", "FORK.3", "POT.0", "POT.1", "POT.2"} {
				told, e := cong.Apply(trees(), inTrees(), facts, i, f)
				if e != api.OK {
					continue
				}
				applied++
				if told.Kind == api.TermAnd {
					truths++
				}
				if !comes(t, bounds, told) {
					t.Fatal(f, shorts(facts...), short(told))
				}
			}
		}
	}
	if same < 3000 || applied < 5000 || truths < 1000 {
		t.Error(same, applied, truths)
	}
}

// Of truths just as much is told as that they are the same.
func TestWhatIsToldOfTruths(t *testing.T) {
	o, i := name("o"), name("i")
	told, e := cong.Apply(trees(), inTrees(), []api.Term{equals(o, i)}, 0, "POT.1")
	if e != api.OK {
		t.Fatal(e)
	}
	pot := func(truth bool) api.Value {
		return api.Value{Kind: api.ValueData, Name: "POT", Fields: []api.Value{{Kind: api.ValueData}, {Kind: api.ValueBool, Truth: truth}, {Kind: api.ValueInt}}}
	}
	for _, a := range []bool{false, true} {
		for _, b := range []bool{false, true} {
			bounds := []api.Bound{{Name: "o", Value: pot(a)}, {Name: "i", Value: pot(b)}}
			if comes(t, bounds, told) != (a == b) {
				t.Error(a, b)
			}
		}
	}
}
