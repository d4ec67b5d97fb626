package cong_test

import (
	"math/rand"
	"runtime/debug"
	"slices"
	"testing"
	"unsafe"

	"whetstone/api"
	"whetstone/cong"
	"whetstone/term"
)

// R1: terms deeper than calls may be nested, terms of more parts than others may have, and long paths.

// stack is how many bytes nested calls may take here: what nests a call for each part of what is deep needs more.
const stack = 1 << 23

// chain fails, unless t is an equality of that many functions of a, and of as many of b.
func chain(t *testing.T, told api.Term, a, b api.Term, depth int) {
	t.Helper()
	if told.Kind != api.TermEq || len(told.Kids) != 2 || term.Size(told) != 2*depth+3 {
		t.Fatal(told.Kind, term.Size(told))
	}
	for i, end := range []api.Term{a, b} {
		at := told.Kids[i]
		for range depth {
			if at.Kind != api.TermApp || at.Name != "CONS.1" || len(at.Kids) != 1 {
				t.Fatal(short(at))
			}
			at = at.Kids[0]
		}
		if !same(at, end) {
			t.Fatal(short(at))
		}
	}
}

func TestDeepTerms(t *testing.T) {
	defer debug.SetMaxStack(debug.SetMaxStack(stack))
	const depth = 150000
	l, k := name("l"), name("k")
	a, b := deep(depth, "CONS.1", l), deep(depth, "CONS.1", k)
	facts := []api.Term{equals(a, b), equals(b, a), equals(deep(depth, "CONS.1", app("CONS.1", l)), b)}
	got, e := cong.Same(facts, a, b, 0, 0, 1)
	if e != api.OK {
		t.Fatal(e)
	}
	chain(t, got, l, k, depth)
	for _, at := range [][]int{{}, {0, 1}, {2}, {0, 2}} {
		if got, e := cong.Same(facts, a, b, at...); e != api.ErrProof || got.Kids != nil {
			t.Error(at, e)
		}
	}
	got, e = apply(0, "CONS.1", facts...)
	if e != api.OK {
		t.Fatal(e)
	}
	chain(t, got, l, k, depth+1)
	got, e = apply(0, "LATE.0", facts...)
	if e != api.OK || got.Kind != api.TermAnd || term.Size(got) != 4*(depth+2)+5 {
		t.Error(e, got.Kind, term.Size(got))
	}
	for f, want := range map[string]api.Errno{"BOX.0": api.ErrSort, "none": api.ErrSort} {
		if got, e := apply(0, f, facts...); e != want || got.Kids != nil {
			t.Error(f, e)
		}
	}
	if _, e := apply(0, "tag", equals(a, deep(depth, "CONS.1", name("none")))); e != api.ErrProof {
		t.Error(e)
	}
}

// No term is too great: there is no limit of its own.
func TestTermsOfMoreParts(t *testing.T) {
	for _, size := range []int{api.MaxTerm, api.MaxTerm + 1, 1 << 17} {
		a, b := wide(size), laden(wide(size))
		got, e := cong.Same([]api.Term{equals(a, b)}, a, b, 0)
		holds(t, got, e, equals(a, b), api.OK, size)
		got, e = cong.Same([]api.Term{equals(a, b)}, a, a)
		holds(t, got, e, equals(a, a), api.OK, size)
		c, d := deep(size, "BOX.3", name("b")), deep(size, "BOX.3", name("c"))
		got, e = apply(0, "BOX.0", equals(c, d))
		holds(t, got, e, both(app("BOX.0", c), app("BOX.0", d)), api.OK, size)
		got, e = apply(0, "BOX.1", equals(c, d))
		holds(t, got, e, equals(app("BOX.1", c), app("BOX.1", d)), api.OK, size)
	}
}

func TestLongPaths(t *testing.T) {
	const long = 300000
	var facts []api.Term
	var at []int
	for i := range int64(long) {
		facts = append(facts, equals(number(i), number(i+1)))
		at = append(at, int(i))
	}
	leads(t, facts, number(0), number(long), at...)
	misses(t, facts, number(0), number(long), at[1:]...)
	misses(t, facts, number(0), number(long), at[:long-1]...)
	// Great facts, along which the path goes very often.
	x, great, other := name("x"), wide(100000), laden(wide(100000))
	facts = []api.Term{equals(x, great), equals(great, other), equals(other, other)}
	at = slices.Repeat([]int{0, 1, 2, 1, 0}, long)
	leads(t, facts, x, x, at...)
	leads(t, facts, x, other, append(at, 0, 1)...)
	misses(t, facts, x, other, at...)
	misses(t, facts, x, x, append(at, 1)...)
}

// What the path does not need is not gone through.
func TestFactsBesideThePath(t *testing.T) {
	x, y := name("x"), name("y")
	great := equals(wide(1000), wide(1000))
	facts := append(slices.Repeat([]api.Term{great}, 100000), equals(x, y))
	for range 100 {
		leads(t, facts, x, y, 100000)
	}
}

// R3, R4, R6

// span is the memory of a list, with the room behind it.
type span struct{ from, to uintptr }

// spanOf is nothing of a list that has no memory.
func spanOf[T any](l []T) []span {
	if cap(l) == 0 {
		return nil
	}
	var one T
	from := uintptr(unsafe.Pointer(unsafe.SliceData(l)))
	return []span{{from, from + uintptr(cap(l))*unsafe.Sizeof(one)}}
}

func spans(l ...api.Term) []span {
	var all []span
	for _, t := range l {
		all = slices.Concat(all, spanOf(t.Num.Digits), spanOf(t.Kids), spans(t.Kids...))
	}
	return all
}

// apart fails, if an answer's list shares memory with another one, or with what was given.
func apart(t *testing.T, answer []span, given ...span) {
	t.Helper()
	for i, a := range answer {
		for _, b := range append(answer[:i:i], given...) {
			if a.from < b.to && b.from < a.to {
				t.Fatal("two lists share memory")
			}
		}
	}
}

// roomy is a list in memory of its own, with room behind it, full of what no call makes.
func roomy[T any](l []T, room T) []T {
	return append(slices.Clone(l), room, room)[:len(l)]
}

// filled tells whether the room behind a list is as it was.
func filled[T any](l []T, same func(a, b T) bool, room T) bool {
	all := l[:len(l)+2]
	return same(all[len(l)], room) && same(all[len(l)+1], room)
}

func roomyTerm(t api.Term) api.Term {
	t.Num.Digits, t.Kids = roomy(t.Num.Digits, full), roomyTerms(t.Kids...)
	return t
}

func roomyTerms(l ...api.Term) []api.Term {
	var made []api.Term
	for _, t := range l {
		made = append(made, roomyTerm(t))
	}
	return roomy(made, name("room"))
}

func equal[T comparable](a, b T) bool { return a == b }

func untouched(t, was api.Term) bool {
	return t.Kind == was.Kind && t.Name == was.Name && sameInt(t.Num, was.Num) && filled(t.Num.Digits, equal, full) && untouchedRow(t.Kids, was.Kids)
}

func untouchedRow(l, was []api.Term) bool {
	return slices.EqualFunc(l, was, untouched) && filled(l, same, name("room"))
}

func sameCon(a, b api.Con) bool {
	return a.Name == b.Name && slices.Equal(a.Fields, b.Fields)
}
func sameData(a, b api.Data) bool {
	return a.Name == b.Name && slices.EqualFunc(a.Cons, b.Cons, sameCon)
}

// roomyWorld is the world, with room behind each list.
func roomyWorld() []api.Data {
	datas := roomy(world(), api.Data{Name: "room"})
	for i := range datas {
		datas[i].Cons = roomy(datas[i].Cons, api.Con{Name: "room"})
		for j := range datas[i].Cons {
			datas[i].Cons[j].Fields = roomy(datas[i].Cons[j].Fields, "room")
		}
	}
	return datas
}

func untouchedWorld(datas []api.Data) bool {
	ok := slices.EqualFunc(datas, world(), sameData) && filled(datas, sameData, api.Data{Name: "room"})
	for _, d := range datas {
		ok = ok && filled(d.Cons, sameCon, api.Con{Name: "room"})
		for _, c := range d.Cons {
			ok = ok && filled(c.Fields, equal, "room")
		}
	}
	return ok
}

func TestCallsChangeNothingAndTellNewMemory(t *testing.T) {
	r := rand.New(rand.NewSource(4))
	datas, row := roomyWorld(), roomy(scope(), api.Sorted{Name: "room", Sort: "room"})
	many := map[api.TermKind]int{}
	for range 5000 {
		side := someSide(r, 4)
		facts := []api.Term{someFact(r, side, someSide(r, 4)), someFact(r, side), someFact(r, side, side, someSide(r, 2))}
		own := roomyTerms(facts...)
		a := pick(r, facts...)
		if len(a.Kids) > 0 {
			a = a.Kids[0]
		}
		walk, b := someWalk(r, facts, a)
		at, ownA, ownB := roomy(walk, most), roomyTerm(a), roomyTerm(b)
		got, e := cong.Same(own, ownA, ownB, at...)
		want, wantE := cong.Same(facts, a, b, walk...)
		holds(t, got, e, want, wantE)
		apart(t, spans(got), slices.Concat(spans(own...), spanOf(own), spans(ownA, ownB))...)
		many[got.Kind]++
		f, place := pick(r, functions()...), r.Intn(3)
		if r.Intn(2) == 0 {
			f = pick(r, "tag", "BOX.0", "LATE.0")
		}
		applied, e := cong.Apply(datas, row, own, place, f)
		want, wantE = apply(place, f, facts...)
		holds(t, applied, e, want, wantE)
		apart(t, spans(applied), slices.Concat(spans(own...), spanOf(own), spans(got))...)
		many[applied.Kind]++
		if !untouchedRow(own, facts) || !untouched(ownA, a) || !untouched(ownB, b) || !slices.Equal(at, walk) || !filled(at, equal, most) {
			t.Fatal("what was given is changed")
		}
	}
	if !untouchedWorld(datas) || !slices.Equal(row, scope()) || !filled(row, equal, api.Sorted{Name: "room", Sort: "room"}) {
		t.Error("data, or the scope, are changed")
	}
	if many[api.TermEq] < 1000 || many[api.TermAnd] < 200 {
		t.Error(many)
	}
}

// One term on both sides, or one that comes in twice, has memory of its own each time.
func TestWhatComesInTwiceSharesNoMemory(t *testing.T) {
	a := app("BOX.3", laden(name("b")))
	facts := []api.Term{equals(a, a)}
	got, e := cong.Same(facts, a, a)
	holds(t, got, e, equals(a, a), api.OK)
	apart(t, spans(got), spans(append(facts, a)...)...)
	got, e = cong.Same(facts, a, a, 0, 0)
	holds(t, got, e, equals(a, a), api.OK)
	apart(t, spans(got), spans(append(facts, a)...)...)
	for _, f := range []string{"BOX.0", "BOX.1", "tag"} {
		got, e := apply(0, f, facts...)
		if e != api.OK {
			t.Fatal(e)
		}
		apart(t, spans(got), spans(facts...)...)
	}
}

func TestWhatIsChangedInAnAnswerIsNotInTheNext(t *testing.T) {
	a, b := app("BOX.3", name("b")), name("c")
	facts := []api.Term{equals(a, b)}
	for range 3 {
		got, e := cong.Same(facts, a, b, 0)
		holds(t, got, e, equals(a, b), api.OK)
		got.Kids[0].Kids[0].Name, got.Kids[1] = "x", yes()
		got, e = apply(0, "BOX.0", facts...)
		holds(t, got, e, both(app("BOX.0", a), app("BOX.0", b)), api.OK)
		got.Kids[0].Kids[1].Kids[0].Name, got.Kids[1].Kids[1].Kids[0].Kids[0].Name = "x", "y"
	}
	misses(t, facts, a, b)
	unproved(t, 1, facts...)
	leads(t, facts, a, b, 0)
}

func TestOneThingIsAnsweredAlikeEachTime(t *testing.T) {
	r := rand.New(rand.NewSource(5))
	for range 200 {
		side := someSide(r, 4)
		facts := []api.Term{someFact(r, side, someSide(r, 4)), someFact(r, side)}
		at, b := someWalk(r, facts, side)
		f := pick(r, functions()...)
		want, wantE := cong.Same(facts, side, b, at...)
		want2, wantE2 := apply(0, f, facts...)
		for range 20 {
			got, e := cong.Same(facts, side, b, at...)
			holds(t, got, e, want, wantE)
			got, e = apply(0, f, facts...)
			holds(t, got, e, want2, wantE2)
		}
	}
}

func TestEmptyAndNilListsAreOne(t *testing.T) {
	none := api.Term{Kind: api.TermVar, Name: "l", Num: api.Int{Digits: []uint32{}}, Kids: []api.Term{}}
	l, k := name("l"), name("k")
	leads(t, []api.Term{equals(none, k)}, l, k, 0)
	leads(t, []api.Term{equals(l, k), equals(k, none)}, none, l, 0, 1)
	leads(t, nil, l, none)
	got, e := apply(0, "tag", equals(none, l))
	holds(t, got, e, equals(app("tag", l), app("tag", l)), api.OK)
	misses(t, []api.Term{{Kind: api.TermEq, Kids: []api.Term{}}}, l, l, 0)
}
