package norm_test

import (
	"math/rand"
	"runtime/debug"
	"slices"
	"testing"
	"unsafe"

	"whetstone/api"
	"whetstone/model"
	"whetstone/norm"
	"whetstone/num"
	"whetstone/term"
)

// P7.3

// someValue is of that sort; of data it is nothing, where it would be too deep.
func someValue(r *rand.Rand, sort string, depth int) api.Value {
	switch sort {
	case "int":
		return api.Value{Kind: api.ValueInt, Num: num.Of(int64(r.Intn(5)) - 2)}
	case "bool":
		return api.Value{Kind: api.ValueBool, Truth: r.Intn(2) == 0}
	}
	v := api.Value{Kind: api.ValueData}
	cons := map[string][]string{"list": {"NIL", "CONS", "LATE"}, "box": {"BARE", "BOX"}, "": {"E"}}[sort]
	if depth == 0 || r.Intn(4) == 0 {
		return v
	}
	v.Name = pick(r, cons...)
	for _, d := range world() {
		for _, c := range d.Cons {
			for i := 0; c.Name == v.Name && i < len(c.Fields); i++ {
				v.Fields = append(v.Fields, someValue(r, c.Fields[i], depth-1))
			}
		}
	}
	return v
}

// someBounds are values for the scope's names; a name that comes twice has that of its last sort.
func someBounds(r *rand.Rand) []api.Bound {
	var l []api.Bound
	for _, s := range row() {
		if s.Name != "odd" {
			l = append(l, api.Bound{Name: s.Name, Value: someValue(r, s.Sort, 4)})
		}
	}
	return l
}

func TestWhatIsToldIsPushedAndComesToTheSame(t *testing.T) {
	r := rand.New(rand.NewSource(4))
	truths := map[bool]int{}
	for range 6000 {
		a := someFormula(r, 1+r.Intn(60))
		pushed, e := push(a, true)
		denied, e2 := push(a, false)
		if e != api.OK || e2 != api.OK {
			continue
		}
		for _, made := range []api.Term{pushed, denied} {
			sort, e := term.Sort(world(), row(), made)
			if !norm.Pushed(made) || sort != "bool" || e != api.OK {
				t.Fatal(short(a), ":", sort, e, short(made))
			}
		}
		for range 4 {
			bounds := someBounds(r)
			want, e := model.Eval(world(), bounds, a)
			is, e2 := model.Eval(world(), bounds, pushed)
			isNot, e3 := model.Eval(world(), bounds, denied)
			if e != api.OK || e2 != api.OK || e3 != api.OK || is.Truth != want.Truth || isNot.Truth == want.Truth {
				t.Fatal(short(a), ":", e, e2, e3, want.Truth, is.Truth, isNot.Truth)
			}
			truths[want.Truth]++
		}
	}
	if truths[true] < 2000 || truths[false] < 2000 {
		t.Error(truths)
	}
}

// Numbers about each other: at most, above and apart are as in the words, at all places near to each other.
func TestNumbersNearToEachOther(t *testing.T) {
	scope := []api.Sorted{{Name: "n", Sort: "int"}, {Name: "m", Sort: "int"}}
	for _, a := range []api.Term{most(name("n"), name("m")), equals(name("n"), name("m")), iff(most(name("n"), name("m")), equals(name("n"), name("m")))} {
		for n := int64(-3); n < 4; n++ {
			for m := int64(-3); m < 4; m++ {
				bounds := []api.Bound{{Name: "n", Value: api.Value{Kind: api.ValueInt, Num: num.Of(n)}}, {Name: "m", Value: api.Value{Kind: api.ValueInt, Num: num.Of(m)}}}
				want, _ := model.Eval(nil, bounds, a)
				for _, is := range []bool{true, false} {
					made, e := norm.Push(nil, scope, a, is)
					got, e2 := model.Eval(nil, bounds, made)
					if e != api.OK || e2 != api.OK || got.Truth != (want.Truth == is) {
						t.Error(n, m, is, short(made))
					}
				}
			}
		}
	}
}

// What is pushed, and has nothing beside what its kinds name, is told as it is.
func TestWhatIsPushedStaysAsItIs(t *testing.T) {
	r := rand.New(rand.NewSource(5))
	for range 3000 {
		a := someFormula(r, 1+r.Intn(40))
		pushed, e := push(a, r.Intn(2) == 0)
		if e == api.OK {
			told(t, pushed, true, pushed)
		}
	}
}

// R1: terms deeper than calls may be nested, and wide ones.

// stack is how many bytes nested calls may take here: what nests a call for each part of what is deep needs more.
const stack = 1 << 23

func TestDeepTerms(t *testing.T) {
	defer debug.SetMaxStack(debug.SetMaxStack(stack))
	const depth = 150000
	p, n := name("p"), name("n")
	nots := deep(depth, p)
	told(t, nots, true, p)
	told(t, nots, false, not(p))
	told(t, iff(nots, nots), true, and(or(not(p), p), or(not(p), p)))
	told(t, deep(depth, iff(nots, p)), false, and(or(p, p), or(not(p), not(p))))
	ands, ors, sum, list, pushed := p, p, n, name("l"), p
	for range depth {
		ands, ors, sum, list, pushed = and(ands, p), or(p, not(ors)), add(n, sum), app("CONS.1", list), or(and(p, pushed))
	}
	for _, a := range []api.Term{ands, ors, not(ands), iff(ors, p), most(sum, n), equals(sum, n), equals(list, list), app("LATE.0", list), and(nots, ands)} {
		for _, is := range []bool{true, false} {
			if got, e := push(a, is); e != api.ErrGrown || got.Kind != 0 || got.Kids != nil {
				t.Error(a.Kind, is, e)
			}
		}
	}
	if _, e := push(and(nots, deep(depth, name("none"))), true); e != api.ErrName {
		t.Error(e)
	}
	if _, e := push(sum, true); e != api.ErrSort {
		t.Error(e)
	}
	if !norm.Pushed(pushed) || !norm.Pushed(ands) || norm.Pushed(ors) || norm.Pushed(nots) || norm.Literal(nots) || norm.Pushed(and(pushed, not(pushed))) {
		t.Error("pushed")
	}
	if !norm.Literal(equals(list, list)) || !norm.Literal(not(equals(list, nots))) || !norm.Pushed(or(most(sum, nots), app("f", nots))) || norm.Literal(ands) {
		t.Error("literal")
	}
}

func TestWideTerms(t *testing.T) {
	const width = 100000
	p := name("p")
	a := and(times(width, or(p, not(p)))...)
	refused(t, a, api.ErrGrown)
	refused(t, iff(a, a), api.ErrGrown)
	refused(t, and(append(times(width, yes()), name("none"))...), api.ErrName)
	if !norm.Pushed(a) || norm.Pushed(and(append(times(width, p), not(not(p)))...)) || norm.Pushed(or(append([]api.Term{not()}, times(width, p)...)...)) {
		t.Error("pushed")
	}
}

// R3, R4, R6

// span is the memory of a list, with the room behind it.
type span struct{ from, to uintptr }

// spanOf is nothing of a list that has no memory.
func spanOf[T any](l []T) []span {
	if cap(l) == 0 {
		return nil
	}
	var one T
	from := uintptr(unsafe.Pointer(unsafe.SliceData(l)))
	return []span{{from, from + uintptr(cap(l))*unsafe.Sizeof(one)}}
}

func spans(t api.Term) []span {
	all := slices.Concat(spanOf(t.Num.Digits), spanOf(t.Kids))
	for _, kid := range t.Kids {
		all = append(all, spans(kid)...)
	}
	return all
}

// apart fails, if an answer's list shares memory with another one, or with what was given.
func apart(t *testing.T, what string, answer []span, given ...span) {
	t.Helper()
	for i, a := range answer {
		for _, b := range append(answer[:i:i], given...) {
			if a.from < b.to && b.from < a.to {
				t.Fatal("two lists share memory:", what)
			}
		}
	}
}

// roomy is a list in memory of its own, with room behind it, full of what no call makes.
func roomy[T any](l []T, room T) []T {
	return append(slices.Clone(l), room, room)[:len(l)]
}

// filled tells whether the room behind a list is as it was.
func filled[T any](l []T, same func(a, b T) bool, room T) bool {
	all := l[:len(l)+2]
	return same(all[len(l)], room) && same(all[len(l)+1], room)
}

func roomyTerm(t api.Term) api.Term {
	var l []api.Term
	for _, kid := range t.Kids {
		l = append(l, roomyTerm(kid))
	}
	t.Num.Digits, t.Kids = roomy(t.Num.Digits, full), roomy(l, name("room"))
	return t
}

func untouched(t, was api.Term) bool {
	sameDigit := func(a, b uint32) bool { return a == b }
	return t.Kind == was.Kind && t.Name == was.Name && sameInt(t.Num, was.Num) && filled(t.Num.Digits, sameDigit, full) &&
		slices.EqualFunc(t.Kids, was.Kids, untouched) && filled(t.Kids, same, name("room"))
}

func sameSorted(a, b api.Sorted) bool { return a == b }
func sameText(a, b string) bool       { return a == b }
func sameCon(a, b api.Con) bool {
	return a.Name == b.Name && slices.Equal(a.Fields, b.Fields)
}
func sameData(a, b api.Data) bool {
	return a.Name == b.Name && slices.EqualFunc(a.Cons, b.Cons, sameCon)
}

// roomyWorld is the world, with room behind each list.
func roomyWorld() []api.Data {
	datas := roomy(world(), api.Data{Name: "room"})
	for i := range datas {
		datas[i].Cons = roomy(datas[i].Cons, api.Con{Name: "room"})
		for j := range datas[i].Cons {
			datas[i].Cons[j].Fields = roomy(datas[i].Cons[j].Fields, "room")
		}
	}
	return datas
}

func untouchedWorld(datas []api.Data) bool {
	ok := slices.EqualFunc(datas, world(), sameData) && filled(datas, sameData, api.Data{Name: "room"})
	for _, d := range datas {
		ok = ok && filled(d.Cons, sameCon, api.Con{Name: "room"})
		for _, c := range d.Cons {
			ok = ok && filled(c.Fields, sameText, "room")
		}
	}
	return ok
}

func TestCallsChangeNothingAndTellNewMemory(t *testing.T) {
	r := rand.New(rand.NewSource(6))
	datas, scope := roomyWorld(), roomy(row(), api.Sorted{Name: "room", Sort: "room"})
	for range 3000 {
		a, is := someFormula(r, 1+r.Intn(30)), r.Intn(2) == 0
		if r.Intn(6) == 0 {
			a = spoilt(r, a)
		}
		own := roomyTerm(a)
		got, e := norm.Push(datas, scope, own, is)
		again, e2 := push(a, is)
		if e != e2 || !same(got, again) {
			t.Fatal(short(a))
		}
		if norm.Literal(own) != norm.Literal(a) || norm.Pushed(own) != norm.Pushed(a) {
			t.Fatal(short(a))
		}
		if term.Size(got) < 300 {
			apart(t, short(a), spans(got), spans(own)...)
		}
		if !untouched(own, a) {
			t.Fatal("a term is changed:", short(a))
		}
	}
	if !untouchedWorld(datas) || !slices.Equal(scope, row()) || !filled(scope, sameSorted, api.Sorted{Name: "room", Sort: "room"}) {
		t.Error("data, or the scope, are changed")
	}
}

// What comes in twice has memory of its own each time; so has what is told as it was given.
func TestWhatComesInTwiceSharesNoMemory(t *testing.T) {
	le := most(laden(scaled(2, name("n"))), number(5))
	truth := app("LATE.0", app("CONS.1", name("l")))
	for _, a := range []api.Term{le, truth, iff(le, truth), iff(iff(le, truth), le), iff(le, le), equals(number(5), number(7)), not(not(le)), and(le, le), laden(truth), and(laden(name("p")), not(laden(name("p"))))} {
		for _, is := range []bool{true, false} {
			got, e := push(a, is)
			if e != api.OK {
				t.Fatal(e)
			}
			apart(t, short(a), spans(got), spans(a)...)
		}
	}
}

func TestWhatIsChangedInAnAnswerIsNotInTheNext(t *testing.T) {
	a := most(name("n"), name("m"))
	want := most(add(name("m"), number(1)), name("n"))
	for range 3 {
		got, e := push(a, false)
		if e != api.OK || !same(got, want) {
			t.Fatal(short(got))
		}
		got.Kids[0].Kids[1].Num.Digits[0] = 7
		got.Kids[0].Kids[0].Name, got.Kids[1] = "x", yes()
	}
	refused(t, name("none"), api.ErrName)
	told(t, yes(), false, no())
}

func TestOneThingIsAnsweredAlikeEachTime(t *testing.T) {
	r := rand.New(rand.NewSource(7))
	for range 50 {
		a, is := someFormula(r, 60), r.Intn(2) == 0
		want, wantE := push(a, is)
		for range 20 {
			got, e := push(a, is)
			if e != wantE || !same(got, want) || norm.Pushed(got) != norm.Pushed(want) {
				t.Fatal(short(a))
			}
		}
	}
}

func TestEmptyAndNilListsAreOne(t *testing.T) {
	none := []api.Term{}
	digits := api.Int{Digits: []uint32{}}
	p := api.Term{Kind: api.TermVar, Name: "p", Num: digits, Kids: none}
	for _, kind := range []api.TermKind{api.TermTrue, api.TermFalse, api.TermVar} {
		a := api.Term{Kind: kind, Num: digits, Kids: none}
		if !norm.Literal(a) || !norm.Pushed(a) {
			t.Error(kind)
		}
	}
	for _, kind := range []api.TermKind{api.TermAnd, api.TermOr} {
		if a := (api.Term{Kind: kind, Num: digits, Kids: none}); norm.Literal(a) || !norm.Pushed(a) {
			t.Error(kind)
		}
	}
	told(t, api.Term{Kind: api.TermAnd, Kids: none}, false, or())
	told(t, iff(p, p), false, and(or(name("p"), name("p")), or(not(name("p")), not(name("p")))))
	zero := api.Term{Kind: api.TermNum, Num: digits, Kids: none}
	told(t, most(zero, zero), false, most(add(number(0), number(1)), number(0)))
	got, e := norm.Push([]api.Data{}, []api.Sorted{}, and(yes()), true)
	again, e2 := norm.Push(nil, nil, and(yes()), true)
	if e != api.OK || e2 != api.OK || !same(got, again) || !same(got, and(yes())) {
		t.Error(e, e2)
	}
}
