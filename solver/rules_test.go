package solver_test

import (
	"math/rand"
	"reflect"
	"runtime/debug"
	"slices"
	"strconv"
	"testing"

	"whetstone/api"
	"whetstone/num"
	"whetstone/solver"
)

// R1: terms deeper than calls may be nested, and many of them.

func TestHoldsOfWhatIsDeep(t *testing.T) {
	defer debug.SetMaxStack(debug.SetMaxStack(1 << 23))
	const depth = 150000
	nots, sums, lists := v("p"), v("x"), v("l")
	for range depth {
		nots, sums, lists = not(nots), scale(-1, sum(sums)), app("cons.1", lists)
	}
	holds(t, false, nil, nots)
	holds(t, true, []api.Atomic{says(v("p"), 0, true, 0)}, nots)
	holds(t, true, []api.Atomic{says(v("x"), 5, false, 0)}, eq(sums, n(5)))
	holds(t, false, nil, eq(lists, app("cons.1", lists)))
	holds(t, true, modelOf(says(lists, 0, false, 3), says(v("k"), 0, false, 3)), eq(lists, v("k")))
	refuses(t, api.ErrName, nil, not(eq(app("cons.1", lists), v("nobody"))))
	many := or(slices.Repeat([]api.Term{v("q")}, depth)...)
	holds(t, false, nil, many)
	holds(t, true, nil, not(and(many, v("p"))))
}

func TestSolveOfWhatIsDeep(t *testing.T) {
	const depth = 3000
	nots, sums, lists, ways := v("p"), v("x"), v("l"), v("q")
	for range depth {
		nots, sums, lists = not(nots), scale(-1, sum(sums)), app("cons.1", lists)
	}
	for range 1000 {
		ways = or(and(ways, v("p")), v("r"))
	}
	told(t, "proof", ask(v("p"), nots))
	told(t, "model", ask(not(nots), v("q")))
	told(t, "proof", ask(le(v("x"), n(3)), le(sums, n(3))))
	told(t, "model", ask(le(v("x"), n(2)), le(sums, n(3))))
	told(t, "proof", ask(eq(lists, v("k")), eq(v("k"), lists)))
	told(t, "model", ask(eq(lists, v("k")), eq(v("l"), v("k"))))
	told(t, "proof", ask(or(v("r"), and(v("p"), v("q"))), ways))
	told(t, "model", ask(and(v("p"), v("q")), ways))
	fails(t, api.ErrGrown, ask(v("p"), or(ways, ways, ways, ways, ways)), most)
	// All of these are the same, if the first two are: a certificate for that, and a model, would be far greater.
	for _, o := range []api.Obligation{ask(eq(v("l"), lists), eq(v("l"), app("cons.1", v("l")))), ask(eq(v("k"), lists), eq(v("l"), app("cons.1", v("l"))))} {
		solve(t, datas(), o, most)
	}
	short := v("l")
	for range 400 {
		short = app("cons.1", short)
	}
	told(t, "proof", ask(eq(v("l"), short), eq(v("l"), app("cons.1", v("l")))))
	told(t, "model", ask(eq(v("k"), short), eq(v("l"), app("cons.1", v("l")))))
}

func TestSolveOfMany(t *testing.T) {
	const many = 500
	var ways, rows, chain, unlike, truths api.Obligation
	for _, o := range []*api.Obligation{&ways, &rows, &chain, &unlike, &truths} {
		*o = ask(node(api.TermFalse))
		for i := range many {
			o.Scope = append(o.Scope, api.Sorted{Name: "a" + strconv.Itoa(i), Sort: "int"}, api.Sorted{Name: "b" + strconv.Itoa(i), Sort: "bool"}, api.Sorted{Name: "c" + strconv.Itoa(i), Sort: "list"})
		}
	}
	at := func(letter string, i int) api.Term { return v(letter + strconv.Itoa(i)) }
	for i := range many {
		ways.Hyps = append(ways.Hyps, or(at("b", i), le(n(5), at("a", i))))
		rows.Hyps = append(rows.Hyps, le(n(int64(i)), at("a", i)))
		truths.Hyps = append(truths.Hyps, or(not(at("b", many-1-i)), at("b", max(many-2-i, 0))))
		if i > 0 {
			chain.Hyps = append(chain.Hyps, eq(at("c", i), at("c", i-1)))
			rows.Hyps = append(rows.Hyps, le(at("a", i), sum(n(1), at("a", i-1))))
		}
		if i < 60 {
			for j := range i {
				unlike.Hyps = append(unlike.Hyps, not(eq(at("c", i), at("c", j))))
			}
		}
	}
	told(t, "model", ways)
	told(t, "model", rows)
	told(t, "model", chain)
	told(t, "model", unlike)
	unlike.Goal = eq(at("c", 3), at("c", 50))
	told(t, "model", unlike)
	unlike.Goal = not(unlike.Goal)
	told(t, "proof", unlike)
	chain.Goal = eq(app("cons.1", at("c", 0)), app("cons.1", at("c", many-1)))
	told(t, "proof", chain)
	truths.Hyps = append(truths.Hyps, at("b", many-1))
	truths.Goal = at("b", 0)
	told(t, "proof", truths)
	truths.Goal = not(at("b", 0))
	told(t, "model", truths)
	wide := or()
	for i := range many {
		wide.Kids = append(wide.Kids, eq(at("a", 0), n(int64(i))))
	}
	told(t, "proof", api.Obligation{Scope: ways.Scope, Hyps: []api.Term{wide}, Goal: le(n(0), at("a", 0))})
}

// What asks for more than there are steps ends all the same.
func TestSolveOfWhatIsHard(t *testing.T) {
	o := ask(node(api.TermFalse))
	l := numbers(&o, 24)
	r := rand.New(rand.NewSource(1))
	for range 3 {
		var parts []api.Term
		total := int64(0)
		for _, x := range l {
			c := r.Int63n(100)
			total += c
			parts = append(parts, scale(c, x))
		}
		o.Hyps = append(o.Hyps, eq(sum(parts...), n(total/2)))
	}
	for _, x := range l {
		o.Hyps = append(o.Hyps, le(n(0), x), le(x, n(1)))
	}
	solve(t, datas(), o, most/16)
}

// What is not clean is told of as rightly, but more of it may be not known.
func TestWhatIsNotClean(t *testing.T) {
	for i := range 600 {
		g := chance{rand.New(rand.NewSource(int64(i)))}
		o := g.asked(g.Intn(7), i%2 == 0)
		for j := range o.Hyps {
			g.burden(&o.Hyps[j])
		}
		g.burden(&o.Goal)
		f, e := solver.Solve(datas(), o, most)
		if e != api.OK {
			t.Fatal(e)
		}
		if !f.Met {
			what(t, datas(), o, f)
			continue
		}
		for k, hyp := range append(slices.Clone(o.Hyps), o.Goal) {
			if is, e := solver.Holds(datas(), o.Scope, f.Model, hyp); e != api.OK || is != (k < len(o.Hyps)) {
				t.Fatal(k, is, e, show(o))
			}
		}
	}
}

// burden lays beside parts of a term what their kinds do not name.
func (g chance) burden(t *api.Term) {
	if g.Intn(6) == 0 {
		switch t.Kind {
		case api.TermVar, api.TermApp:
			t.Num = num.Of(g.Int63n(3))
		case api.TermNum, api.TermScale:
			t.Name = "beside"
		default:
			t.Name, t.Num = "beside", num.Of(g.Int63n(3))
		}
	}
	t.Kids = slices.Clone(t.Kids)
	for i := range t.Kids {
		g.burden(&t.Kids[i])
	}
}

// R3, R6

// remade is v in memory of its own, each list with room behind it, or, where there are none, with or without memory.
func remade(v reflect.Value, empty bool) reflect.Value {
	made := reflect.New(v.Type()).Elem()
	switch v.Kind() {
	case reflect.Struct:
		for i := range v.NumField() {
			made.Field(i).Set(remade(v.Field(i), empty))
		}
	case reflect.Slice:
		if v.Len() == 0 && !empty {
			return made
		}
		made.Set(reflect.MakeSlice(v.Type(), v.Len(), v.Len()+3))
		for i := range v.Len() {
			made.Index(i).Set(remade(v.Index(i), empty))
		}
	default:
		made.Set(v)
	}
	return made
}

func fresh[T any](v T, empty bool) T {
	return remade(reflect.ValueOf(v), empty).Interface().(T)
}

// opened is v with the room behind its lists.
func opened(v reflect.Value) reflect.Value {
	made := reflect.New(v.Type()).Elem()
	switch v.Kind() {
	case reflect.Struct:
		for i := range v.NumField() {
			made.Field(i).Set(opened(v.Field(i)))
		}
	case reflect.Slice:
		if v.IsNil() {
			return made
		}
		all := v.Slice(0, v.Cap())
		made.Set(reflect.MakeSlice(v.Type(), all.Len(), all.Len()))
		for i := range all.Len() {
			made.Index(i).Set(opened(all.Index(i)))
		}
	default:
		made.Set(v)
	}
	return made
}

func untouched[T any](v, was T) bool {
	return reflect.DeepEqual(opened(reflect.ValueOf(v)).Interface(), opened(reflect.ValueOf(was)).Interface())
}

// span is the memory of a list, with the room behind it.
type span struct{ from, to uintptr }

// spans are those of all lists of v that have memory.
func spans(v reflect.Value) []span {
	var all []span
	switch v.Kind() {
	case reflect.Struct:
		for i := range v.NumField() {
			all = append(all, spans(v.Field(i))...)
		}
	case reflect.Slice:
		if v.Cap() > 0 {
			from := uintptr(v.UnsafePointer())
			all = append(all, span{from, from + uintptr(v.Cap())*v.Type().Elem().Size()})
		}
		for i := range v.Len() {
			all = append(all, spans(v.Index(i))...)
		}
	}
	return slices.DeleteFunc(all, func(s span) bool { return s.from == s.to })
}

// apart fails, if a list of the answer shares memory with another one, or with what was given.
func apart(t *testing.T, answer, given []span) {
	t.Helper()
	all := slices.Concat(answer, given)
	slices.SortFunc(all, func(a, b span) int { return int(a.from) - int(b.from) })
	mine := map[span]int{}
	for _, a := range answer {
		mine[a]++
	}
	for i := 1; i < len(all); i++ {
		if all[i].from < all[i-1].to && mine[all[i]]+mine[all[i-1]] > 0 {
			t.Fatal("two lists share memory")
		}
	}
}

func TestCallsChangeNothingAndTellNewMemory(t *testing.T) {
	t.Parallel()
	for i := range 150 {
		g := chance{rand.New(rand.NewSource(int64(i)))}
		o := g.asked(g.Intn(9), i%3 > 0)
		if i%7 == 0 {
			o = ask(g.dense(9), g.dense(9), g.dense(9), g.dense(9), g.dense(9))
		}
		if i%7 == 1 {
			// One bound, by which more than one case can not be.
			o.Hyps = append(o.Hyps, le(v("x"), n(3)), or(le(n(5), v("x")), le(n(6), v("x")), eq(v("x"), n(7))))
		}
		want, _ := solver.Solve(datas(), o, most)
		for _, empty := range []bool{true, false} {
			d, own := fresh(datas(), empty), fresh(o, empty)
			f, e := solver.Solve(d, own, most)
			if e != api.OK || !reflect.DeepEqual(f, want) {
				t.Fatalf("%v %+v is not %+v", e, f, want)
			}
			if !untouched(d, fresh(datas(), empty)) || !untouched(own, fresh(o, empty)) {
				t.Fatal("what was given is changed", show(o))
			}
			apart(t, spans(reflect.ValueOf(f)), slices.Concat(spans(reflect.ValueOf(d)), spans(reflect.ValueOf(own))))
			model := fresh(f.Model, empty)
			if is, e := solver.Holds(d, own.Scope, model, own.Goal); e != api.OK || f.Met && is {
				t.Fatal(is, e)
			}
			if !untouched(model, fresh(f.Model, empty)) || !untouched(own, fresh(o, empty)) || !untouched(d, fresh(datas(), empty)) {
				t.Fatal("what was given is changed", show(o))
			}
		}
	}
}

// What is changed in an answer, or in what was given, is not in the next answer.
func TestNothingIsKept(t *testing.T) {
	x := v("x")
	o := ask(le(x, n(4)), le(x, n(3)), or(eq(v("k"), v("l")), v("p")))
	want, _ := solver.Solve(datas(), o, most)
	f, _ := solver.Solve(datas(), o, most)
	f.Proof[0].At[0], f.Proof[0].Coefs[0].Num.Digits[0], f.Proof[0].Kind = 7, 7, 7
	if again, _ := solver.Solve(datas(), o, most); !reflect.DeepEqual(again, want) {
		t.Error(again)
	}
	o.Goal.Kids[1] = n(2)
	told(t, "model", o)
	f, _ = solver.Solve(datas(), o, most)
	f.Model[0].Key, f.Model[0].Num = "", num.Of(9)
	told(t, "model", o)
	o.Goal.Kids[1] = n(5)
	told(t, "proof", o)
}

func TestEmptyAndNilListsAreOne(t *testing.T) {
	bare := api.Obligation{Goal: or(node(api.TermTrue), and())}
	for _, empty := range []bool{true, false} {
		f, e := solver.Solve(fresh([]api.Data(nil), empty), fresh(bare, empty), most)
		if e != api.OK || what(t, nil, bare, f) != "proof" {
			t.Error(e, f)
		}
		if is, e := solver.Holds(fresh([]api.Data(nil), empty), fresh([]api.Sorted(nil), empty), fresh([]api.Atomic(nil), empty), fresh(bare.Goal, empty)); e != api.OK || !is {
			t.Error(is, e)
		}
	}
}
