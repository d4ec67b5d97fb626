package closing_test

import (
	"math/rand"
	"reflect"
	"runtime/debug"
	"slices"
	"strconv"
	"testing"
	"unsafe"

	"whetstone/api"
	"whetstone/closing"
	"whetstone/term"
)

// R1: terms deeper than calls may be nested, terms of more parts than others may have, and many facts.

// stack is how many bytes nested calls may take here: what nests a call for each part of what is deep needs more.
const stack = 1 << 23

func TestDeepTerms(t *testing.T) {
	defer debug.SetMaxStack(debug.SetMaxStack(stack))
	const depth = 150000
	s, u, v := name("s"), name("t"), name("u")
	a, b, c := deep(depth, "FORK.0", s), deep(depth, "FORK.0", u), deep(depth, "FORK.0", v)
	facts := []api.Term{equals(a, b), equals(c, b), yes()}
	goes(t, facts, a, c, 0, 1)
	lost(t, facts[:2], a, app("FORK.0", a))
	trees().closes(t, facts, nil)
	trees().refuses(t, api.ErrGrown, append(facts[:1:1], equals(s, u))...)
	trees().refuses(t, api.ErrGrown, append(facts[:1:1], atMost(app("tag", a), app("tag", b)))...)
	trees().refuses(t, api.ErrName, append(facts[:1:1], equals(deep(depth, "FORK.0", name("none")), a))...)
	// One behind the other they are all due, up to the outermost ones.
	const less = 3000
	a, b = deep(less, "FORK.0", s), deep(less, "FORK.0", u)
	facts = []api.Term{atMost(app("tag", a), app("tag", b)), equals(s, u)}
	trees().refuses(t, api.ErrGrown, facts...)
	a, b = deep(200, "FORK.0", s), deep(200, "FORK.0", u)
	facts[0] = atMost(app("tag", a), app("tag", b))
	steps, all := trees().close(t, facts...)
	if len(steps) != 201 || !same(all[202], equals(app("tag", a), app("tag", b))) {
		t.Error(len(steps), shorts(all[202:]...))
	}
	for i, p := range steps {
		if !sameStep(p, stepApply(i+1, "FORK.0")) && !sameStep(p, stepApply(201, "tag")) {
			t.Fatal(i, brief(p))
		}
	}
}

func TestDeepApps(t *testing.T) {
	defer debug.SetMaxStack(debug.SetMaxStack(stack))
	a := name("s")
	var want []api.Term
	for range 1500 {
		a = app("FORK.0", a)
		want = append(want, a)
	}
	has(t, []api.Term{not(equals(a, a))}, want...)
	nots := yes()
	for range 150000 {
		nots = not(nots)
	}
	has(t, []api.Term{nots, app("f", nots)}, app("f", nots))
}

func TestWideTerms(t *testing.T) {
	const width = 100000
	x, great, other := name("x"), wide(width), laden(wide(width))
	goes(t, []api.Term{equals(x, great), equals(great, other)}, x, other, 0, 1)
	lost(t, []api.Term{equals(x, great), equals(great, other)}, x, wide(width-1))
	has(t, []api.Term{and(slices.Repeat([]api.Term{app("f", x), app("g", x)}, width)...), great}, app("f", x), app("g", x))
	trees().closes(t, []api.Term{great, other, not(great)}, nil)
	// All of one class, and nothing to be told.
	sum := add(slices.Repeat([]api.Term{app("tag", name("s"))}, width)...)
	trees().closes(t, []api.Term{equals(name("s"), name("t")), atMost(sum, number(0))}, nil)
}

func TestLongPaths(t *testing.T) {
	const long = 100000
	var facts []api.Term
	var at, back []int
	for i := range int64(long) {
		facts = append(facts, equals(number(i+1), number(i)))
		at, back = append(at, int(i)), append(back, int(long-1-i))
	}
	goes(t, facts, number(0), number(long), at...)
	goes(t, facts, number(long), number(0), back...)
	goes(t, append(facts, equals(number(1), number(long-1))), number(0), number(long), 0, long, long-1)
	lost(t, facts, number(-1), number(long))
	// As many to and fro, by which no way leads on.
	goes(t, slices.Concat(slices.Repeat([]api.Term{equals(number(0), number(0)), equals(number(1), number(0))}, long), facts), number(0), number(3), 1, 2*long+1, 2*long+2)
}

// numbered are so many trees.
func numbered(many int) (world, []api.Term) {
	w := trees()
	var l []api.Term
	for i := range many {
		l = append(l, name("x"+strconv.Itoa(i)))
		w.scope = append(w.scope, api.Sorted{Name: l[i].Name, Sort: "tree"})
	}
	return w, l
}

// Great classes, in which the ends of all equalities but one were laid.
func TestManySteps(t *testing.T) {
	const many = 3000
	w, l := numbered(many)
	var facts []api.Term
	sum, back := add(), add()
	for i := range l {
		if i > 0 {
			facts = append(facts, equals(l[i-1], l[i]))
		}
		sum.Kids, back.Kids = append(sum.Kids, app("tag", l[i])), append(back.Kids, app("tag", l[many-1-i]))
	}
	steps, all := w.close(t, append(facts, atMost(sum, number(0)))...)
	if len(steps) != 2*many-3 || !sameStep(steps[0], stepApply(0, "tag")) || !same(all[len(all)-1], equals(app("tag", l[0]), app("tag", l[many-1]))) {
		t.Error(len(steps), shorts(all[len(all)-1]))
	}
	for i := 2; i < many; i++ {
		at := steps[2*i-3]
		from := many + 2*i - 5
		if i == 2 {
			from = 0
		}
		if !sameStep(at, stepSame(l[0], l[i], from, i-1)) {
			t.Fatal(i, brief(at))
		}
	}
	steps, all = w.close(t, append(facts, atMost(back, number(0)))...)
	if len(steps) != 2*many-3 || !same(all[len(all)-1], equals(app("tag", l[many-1]), app("tag", l[0]))) {
		t.Error(len(steps), shorts(all[len(all)-1]))
	}
	// Beside many of which nothing is due.
	far := deep(20000, "FORK.0", name("s"))
	steps, _ = w.close(t, append(facts[:1000], atMost(sum, app("tag", far)))...)
	if len(steps) != 1999 {
		t.Error(len(steps))
	}
}

func TestManyPairsOfTruths(t *testing.T) {
	for many, want := range map[int]api.Errno{20: api.OK, 80: api.OK, 90: api.OK, 120: api.ErrGrown, 400: api.ErrGrown} {
		w, l := numbered(many)
		var facts []api.Term
		for i := range l {
			facts = append(facts, app("FORK.2", l[i]), equals(l[0], l[i]))
		}
		steps, all, e := closing.Close(w.datas, w.scope, facts...)
		pairs := 0
		for _, fact := range all {
			if fact.Kind == api.TermAnd {
				pairs++
			}
		}
		if e != want || e == api.OK && (pairs != many*(many-1)/2 || len(steps) < pairs) || e != api.OK && (steps != nil || all != nil) {
			t.Error(many, e, len(steps), pairs)
		}
	}
}

// R3, R4, R6

// remade is v in memory of its own, each list with room behind it, or, where there are none, with or without memory.
func remade(v reflect.Value, empty bool) reflect.Value {
	made := reflect.New(v.Type()).Elem()
	switch v.Kind() {
	case reflect.Struct:
		for i := range v.NumField() {
			made.Field(i).Set(remade(v.Field(i), empty))
		}
	case reflect.Slice:
		if v.Len() == 0 && !empty {
			return made
		}
		made.Set(reflect.MakeSlice(v.Type(), v.Len(), v.Len()+3))
		for i := range v.Len() {
			made.Index(i).Set(remade(v.Index(i), empty))
		}
	default:
		made.Set(v)
	}
	return made
}

func fresh[T any](v T, empty bool) T {
	return remade(reflect.ValueOf(v), empty).Interface().(T)
}

// opened is v with the room behind its lists.
func opened(v reflect.Value) reflect.Value {
	made := reflect.New(v.Type()).Elem()
	switch v.Kind() {
	case reflect.Struct:
		for i := range v.NumField() {
			made.Field(i).Set(opened(v.Field(i)))
		}
	case reflect.Slice:
		if v.IsNil() {
			return made
		}
		all := v.Slice(0, v.Cap())
		made.Set(reflect.MakeSlice(v.Type(), all.Len(), all.Len()))
		for i := range all.Len() {
			made.Index(i).Set(opened(all.Index(i)))
		}
	default:
		made.Set(v)
	}
	return made
}

func untouched[T any](v, was T) bool {
	return reflect.DeepEqual(opened(reflect.ValueOf(v)).Interface(), opened(reflect.ValueOf(was)).Interface())
}

// span is the memory of a list, with the room behind it.
type span struct{ from, to uintptr }

// spanOf is nothing of a list that has no memory.
func spanOf[T any](l []T) []span {
	if cap(l) == 0 {
		return nil
	}
	var one T
	from := uintptr(unsafe.Pointer(unsafe.SliceData(l)))
	return []span{{from, from + uintptr(cap(l))*unsafe.Sizeof(one)}}
}

func spans(l ...api.Term) []span {
	all := spanOf(l)
	for _, t := range l {
		all = slices.Concat(all, spanOf(t.Num.Digits), spans(t.Kids...))
	}
	return all
}

func spansOfSteps(l ...api.Proof) []span {
	all := spanOf(l)
	for _, p := range l {
		all = slices.Concat(all, spanOf(p.At), spans(p.Terms...))
	}
	return all
}

// apart fails, if a list of the answer shares memory with another one, or with what was given.
func apart(t *testing.T, answer []span, given ...span) {
	t.Helper()
	all := slices.Concat(answer, given)
	slices.SortFunc(all, func(a, b span) int { return int(a.from) - int(b.from) })
	mine := map[span]int{}
	for _, a := range answer {
		mine[a]++
	}
	for i := 1; i < len(all); i++ {
		if all[i].from < all[i-1].to && mine[all[i]]+mine[all[i-1]] > 0 {
			t.Fatal("two lists share memory")
		}
	}
}

// eachFacts hands out facts of worlds, some of them wrong, or with what their kinds do not name.
func eachFacts(many int, seed int64, do func(r *rand.Rand, w world, facts []api.Term)) {
	r := rand.New(rand.NewSource(seed))
	for i := range many {
		w := pick(r, trees, odds)()
		facts := w.facts(r, r.Intn(25))
		for j := range facts {
			switch {
			case i%4 == 1:
				facts[j] = w.burdened(facts[j])
			case i%4 == 2 && r.Intn(20) == 0:
				facts[j] = spoilt(r, facts[j])
			}
		}
		do(r, w, facts)
	}
}

func TestCallsChangeNothingAndTellNewMemory(t *testing.T) {
	t.Parallel()
	told := 0
	eachFacts(300, 12, func(r *rand.Rand, w world, facts []api.Term) {
		wantSteps, want, wantE := closing.Close(w.datas, w.scope, facts...)
		wantApps := closing.Apps(facts...)
		for _, empty := range []bool{true, false} {
			datas, scope, own := fresh(w.datas, empty), fresh(w.scope, empty), fresh(facts, empty)
			world{datas, scope}.tells(t, own, wantSteps, want, wantE)
			has(t, own, wantApps...)
			steps, all, _ := closing.Close(datas, scope, own...)
			apps := closing.Apps(own...)
			apart(t, slices.Concat(spans(all...), spansOfSteps(steps...), spans(apps...)), spans(own...)...)
			told += len(steps)
			if len(facts) > 1 {
				sides := fresh([]api.Term{pick(r, facts...), pick(r, facts...)}, empty)
				if fact := pick(r, facts...); len(fact.Kids) == 2 {
					sides = fresh(fact.Kids, empty)
				}
				was := fresh(sides, empty)
				at, ok := closing.Path(own, sides[0], sides[1])
				wantAt, wantOK := newGraph(facts...).path(sides[0], sides[1])
				if ok != wantOK || !slices.Equal(at, wantAt) || !untouched(sides, was) {
					t.Fatal(at, ok, "is not", wantAt, wantOK)
				}
			}
			if !untouched(datas, fresh(w.datas, empty)) || !untouched(scope, fresh(w.scope, empty)) || !untouched(own, fresh(facts, empty)) {
				t.Fatal("what was given is changed:", shorts(facts...))
			}
		}
	})
	if told < 600 {
		t.Error(told)
	}
}

// One term that comes in twice, in facts and in steps, has memory of its own each time.
func TestWhatComesInTwiceSharesNoMemory(t *testing.T) {
	s, v := laden(name("s")), app("FORK.0", laden(name("u")))
	facts := []api.Term{equals(s, name("t")), equals(name("t"), v), atMost(app("tag", s), app("tag", v)), app("FORK.2", v), app("FORK.2", s)}
	facts = append(facts, facts[0], facts[1])
	steps, all := trees().close(t, facts...)
	if len(steps) != 3 {
		t.Fatal(brief(steps...))
	}
	apart(t, slices.Concat(spans(all...), spansOfSteps(steps...)), spans(facts...)...)
	apps := closing.Apps(append(facts, app("tag", app("FORK.0", v)))...)
	apart(t, spans(apps...), spans(facts...)...)
	// Without steps too.
	one := []api.Term{facts[0], facts[0]}
	_, all = trees().close(t, one...)
	apart(t, spans(all...), spans(one...)...)
}

// What is changed in what was given, or in an answer, is not met by another call.
func TestNothingIsKept(t *testing.T) {
	s, u, v := name("s"), name("t"), name("u")
	facts := []api.Term{equals(s, u), equals(u, v), atMost(app("tag", s), app("tag", v))}
	for range 3 {
		trees().closes(t, facts, []api.Proof{stepSame(s, v, 0, 1), stepApply(3, "tag")}, equals(s, v), equals(app("tag", s), app("tag", v)))
		steps, all := trees().close(t, facts...)
		steps[0].Terms[0].Name, steps[0].At[1], steps[1].At[0] = "x", 0, 0
		all[0].Kids[0].Name, all[4].Kids[0].Kids[0].Name, all[3].Kids[1] = "x", "y", yes()
		has(t, facts, app("tag", s), app("tag", v))
		closing.Apps(facts...)[0].Kids[0].Name = "x"
		at, _ := closing.Path(facts, s, v)
		at[0] = 7
		goes(t, facts, s, v, 0, 1)
	}
	facts[0].Kids[0] = v
	trees().closes(t, facts, nil)
	goes(t, facts, v, u, 0)
	lost(t, facts, s, v)
}

func TestOneThingIsAnsweredAlikeEachTime(t *testing.T) {
	t.Parallel()
	eachFacts(100, 13, func(r *rand.Rand, w world, facts []api.Term) {
		steps, all, e := closing.Close(w.datas, w.scope, facts...)
		apps := closing.Apps(facts...)
		for range 8 {
			w.tells(t, facts, steps, all, e)
			has(t, facts, apps...)
		}
		for _, a := range apps[:min(len(apps), 4)] {
			for _, b := range apps[:min(len(apps), 4)] {
				if at, ok := closing.Path(all, a, b); ok {
					for range 4 {
						goes(t, all, a, b, at...)
					}
				}
			}
		}
	})
}

func TestEmptyAndNilListsAreOne(t *testing.T) {
	s, u := name("s"), name("t")
	empty := api.Term{Kind: api.TermVar, Name: "s", Num: api.Int{Digits: []uint32{}}, Kids: []api.Term{}}
	facts := []api.Term{equals(empty, u), atMost(app("tag", s), app("tag", empty)), equals(app("tag", u), number(0))}
	goes(t, facts, s, u, 0)
	goes(t, nil, s, empty)
	has(t, facts, app("tag", s), app("tag", u))
	trees().closes(t, facts, []api.Proof{stepApply(0, "tag")}, equals(app("tag", s), app("tag", u)))
	for _, w := range []world{{}, {[]api.Data{}, []api.Sorted{}}} {
		w.closes(t, []api.Term{}, nil)
		w.closes(t, []api.Term{{Kind: api.TermAnd, Kids: []api.Term{}}}, nil)
	}
	if got := closing.Apps(); len(got) != 0 {
		t.Error(shorts(got...))
	}
	if term.Size(closing.Apps(add())...) != 0 {
		t.Error("apps of none")
	}
}
