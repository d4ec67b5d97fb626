package linear_test

import (
	"math/rand"
	"runtime/debug"
	"slices"
	"strconv"
	"testing"
	"unsafe"

	"whetstone/api"
	"whetstone/linear"
	"whetstone/num"
	"whetstone/term"
)

// P6.4

func TestWhatTermTellsIsOfTheSameLinear(t *testing.T) {
	r := rand.New(rand.NewSource(5))
	for range 4000 {
		l := someLinear(r)
		a, ok := linear.Term(l.Keys, l.Coefs)
		if !ok {
			t.Fatal(short(l))
		}
		got, ok := linear.Of(add(a, number(l.Const)))
		holds(t, got, ok, l, true)
		got, ok = linear.Of(a)
		holds(t, got, ok, api.Linear{Keys: l.Keys, Coefs: l.Coefs}, true)
		back, ok := linear.Term(got.Keys, got.Coefs)
		if !ok || !sameTerm(back, a) {
			t.Fatal(term.Key(a), term.Key(back))
		}
	}
}

func TestSumsHangOnNoOrder(t *testing.T) {
	r := rand.New(rand.NewSource(6))
	for range 1500 {
		a, b := someTerm(r, 12), someTerm(r, 12)
		want, wantOK := linear.Of(add(a, b))
		got, ok := linear.Of(add(b, a))
		holds(t, got, ok, want, wantOK, term.Key(a), term.Key(b))
		var coefs, turned []api.Ratio
		var l, turnedL []api.Linear
		for range 1 + r.Intn(5) {
			coefs, l = append(coefs, someRatio(r)), append(l, someLinear(r))
		}
		for _, i := range r.Perm(len(l)) {
			turned, turnedL = append(turned, coefs[i]), append(turnedL, l[i])
		}
		keys, parts, n, ok := linear.Sum(coefs, l...)
		if !ok {
			t.Fatal("not right")
		}
		told(t, turned, turnedL, keys, parts, n)
	}
}

func TestOfALinearAndItLessNothingIsLeft(t *testing.T) {
	r := rand.New(rand.NewSource(7))
	for range 2000 {
		l, a := someLinear(r), someTerm(r, 15)
		told(t, brokens("1", "-1"), []api.Linear{l, l}, nil, nil, broken(0, 1))
		by := someRatio(r)
		less := api.Ratio{Num: num.Neg(by.Num), Den: by.Den}
		told(t, []api.Ratio{by, less}, []api.Linear{l, l}, nil, nil, broken(0, 1))
		got, ok := linear.Of(add(a, scaled(-1, a)))
		holds(t, got, ok, api.Linear{}, true, term.Key(a))
	}
}

// R1: terms deeper than calls may be nested, wide ones, and long numbers.

// stack is how many bytes nested calls may take here: what nests a call for each part of what is deep needs more.
const stack = 1 << 24

func TestDeepTerms(t *testing.T) {
	defer debug.SetMaxStack(debug.SetMaxStack(stack))
	const depth = 300000
	sum := deep(depth, add(name("x"), literal(3)))
	got, ok := linear.Of(sum)
	holds(t, got, ok, sumOf(3, on(x), 1), true)
	got, ok = linear.Of(add(sum, scaled(-1, sum), name("y")))
	holds(t, got, ok, sumOf(0, on(y), 1), true)
	got, ok = linear.Of(add(sum, deep(depth, equals())))
	holds(t, got, ok, api.Linear{}, false)
	left, right := name("x"), name("x")
	for range depth {
		left, right = add(left, name("x")), add(name("x"), right)
	}
	for _, a := range []api.Term{left, right} {
		got, ok = linear.Of(a)
		holds(t, got, ok, sumOf(0, on(x), depth+1), true)
	}
	atom := app("f", sum)
	got, ok = linear.Of(scaled(2, atom))
	key := term.Key(atom)
	holds(t, got, ok, sumOf(0, on(key), 2), true)
	made, ok := linear.Term(on(key), wholes(5))
	if !ok || len(made.Kids) != 1 || term.Key(made.Kids[0].Kids[0]) != key {
		t.Error("term", ok)
	}
}

func TestWideTermsAndManyLinears(t *testing.T) {
	const width = 50000
	sum, keys := add(), map[string]int64{}
	for i := range int64(width) {
		v := name(strconv.Itoa(int(i % 20000)))
		sum.Kids = append(sum.Kids, scaled(i, v), literal(1))
		keys[term.Key(v)] += i
	}
	got, ok := linear.Of(sum)
	if !ok || !linear.Right(got) || len(got.Keys) != len(keys) || !sameInt(got.Const, num.Of(width)) {
		t.Fatal(ok, len(got.Keys))
	}
	for i, key := range got.Keys {
		if !sameInt(got.Coefs[i], num.Of(keys[key])) {
			t.Fatal(key)
		}
	}
	var coefs []api.Ratio
	var l []api.Linear
	for i := range int64(2000) {
		coefs, l = append(coefs, broken(i, 3)), append(l, sumOf(1, on(x), i+1))
	}
	told(t, coefs, l, on(x), brokens("2666666000/3"), broken(1999000, 3)) // the sums of i (i + 1) and of i, below 2000
}

func TestLongNumbers(t *testing.T) {
	great := api.Int{Digits: slices.Repeat([]uint32{7}, 3000)}
	square := num.Mul(great, great)
	got, ok := linear.Of(scaledBy(great, scaledBy(great, add(name("x"), literal(-1)))))
	holds(t, got, ok, api.Linear{Keys: on(x), Coefs: []api.Int{square}, Const: num.Neg(square)}, true)
	told(t, []api.Ratio{broken(1, 2), broken(-1, 2)}, []api.Linear{got, got}, nil, nil, broken(0, 1))
}

// R3, R4, R6

// span is the memory of a list, with the room behind it.
type span struct{ from, to uintptr }

// spanOf is nothing of a list that has no memory.
func spanOf[T any](l []T) []span {
	if cap(l) == 0 {
		return nil
	}
	var one T
	from := uintptr(unsafe.Pointer(unsafe.SliceData(l)))
	return []span{{from, from + uintptr(cap(l))*unsafe.Sizeof(one)}}
}

func intSpans(l ...api.Int) []span {
	var all []span
	for _, n := range l {
		all = append(all, spanOf(n.Digits)...)
	}
	return all
}

func ratioSpans(l ...api.Ratio) []span {
	var all []span
	for _, a := range l {
		all = append(all, intSpans(a.Num, a.Den)...)
	}
	return all
}

func linearSpans(l api.Linear) []span {
	return slices.Concat(spanOf(l.Keys), spanOf(l.Coefs), intSpans(l.Coefs...), intSpans(l.Const))
}

func termSpans(t api.Term) []span {
	all := slices.Concat(intSpans(t.Num), spanOf(t.Kids))
	for _, kid := range t.Kids {
		all = append(all, termSpans(kid)...)
	}
	return all
}

// apart fails, if an answer's list shares memory with another one, or with what was given.
func apart(t *testing.T, what string, answer []span, given ...span) {
	t.Helper()
	for i, a := range answer {
		for _, b := range append(answer[:i:i], given...) {
			if a.from < b.to && b.from < a.to {
				t.Fatal("two lists share memory:", what)
			}
		}
	}
}

// roomy is a list in memory of its own, with room behind it, full of what no call makes.
func roomy[T any](l []T, room T) []T {
	return append(slices.Clone(l), room, room)[:len(l)]
}

// filled tells whether the room behind a list is as it was.
func filled[T any](l []T, same func(a, b T) bool, room T) bool {
	all := l[:len(l)+2]
	return same(all[len(l)], room) && same(all[len(l)+1], room)
}

func roomyInt(n api.Int) api.Int { return api.Int{Neg: n.Neg, Digits: roomy(n.Digits, full)} }

func untouchedInt(n, was api.Int) bool {
	return sameInt(n, was) && filled(n.Digits, func(a, b uint32) bool { return a == b }, full)
}

func roomyRatio(a api.Ratio) api.Ratio { return api.Ratio{Num: roomyInt(a.Num), Den: roomyInt(a.Den)} }

func untouchedRatio(a, was api.Ratio) bool {
	return untouchedInt(a.Num, was.Num) && untouchedInt(a.Den, was.Den)
}

func roomyRatios(l []api.Ratio) []api.Ratio {
	var own []api.Ratio
	for _, a := range l {
		own = append(own, roomyRatio(a))
	}
	return roomy(own, broken(11, 13))
}

func roomyLinear(l api.Linear) api.Linear {
	var coefs []api.Int
	for _, n := range l.Coefs {
		coefs = append(coefs, roomyInt(n))
	}
	return api.Linear{Keys: roomy(l.Keys, "room"), Coefs: roomy(coefs, num.Of(11)), Const: roomyInt(l.Const)}
}

func untouchedLinear(l, was api.Linear) bool {
	if !slices.Equal(l.Keys, was.Keys) || !filled(l.Keys, func(a, b string) bool { return a == b }, "room") {
		return false
	}
	return slices.EqualFunc(l.Coefs, was.Coefs, untouchedInt) && filled(l.Coefs, sameInt, num.Of(11)) && untouchedInt(l.Const, was.Const)
}

func roomyTerm(t api.Term) api.Term {
	var l []api.Term
	for _, kid := range t.Kids {
		l = append(l, roomyTerm(kid))
	}
	t.Num, t.Kids = roomyInt(t.Num), roomy(l, name("room"))
	return t
}

func untouchedTerm(t, was api.Term) bool {
	return t.Kind == was.Kind && t.Name == was.Name && untouchedInt(t.Num, was.Num) && slices.EqualFunc(t.Kids, was.Kids, untouchedTerm) && filled(t.Kids, sameTerm, name("room"))
}

func TestOfAndTermChangeNothingAndTellNewMemory(t *testing.T) {
	r := rand.New(rand.NewSource(8))
	for range 2000 {
		a := someTerm(r, 1+r.Intn(20))
		if r.Intn(6) == 0 {
			a = spoilt(r, a)
		}
		own := roomyTerm(a)
		got, ok := linear.Of(own)
		again, againOK := linear.Of(a)
		holds(t, got, ok, again, againOK, term.Key(a))
		apart(t, term.Key(a), linearSpans(got), termSpans(own)...)
		if !untouchedTerm(own, a) {
			t.Fatal("a term is changed:", term.Key(a))
		}
		l := someLinear(r)
		if r.Intn(4) == 0 {
			l = someWrong(r, l)
		}
		ownL := roomyLinear(l)
		if linear.Right(ownL) != linear.Right(l) || !untouchedLinear(ownL, l) {
			t.Fatal("a linear is changed:", short(l))
		}
		made, ok := linear.Term(ownL.Keys, ownL.Coefs)
		madeAgain, againOK := linear.Term(l.Keys, l.Coefs)
		if ok != againOK || !sameTerm(made, madeAgain) || !untouchedLinear(ownL, l) {
			t.Fatal("keys or parts are changed:", short(l))
		}
		apart(t, short(l), termSpans(made), linearSpans(ownL)...)
	}
}

func TestSumChangesNothingAndTellsNewMemory(t *testing.T) {
	r := rand.New(rand.NewSource(9))
	for range 2000 {
		var coefs []api.Ratio
		var l, own []api.Linear
		for range r.Intn(4) {
			one := someLinear(r)
			if r.Intn(20) == 0 {
				one = someWrong(r, one)
			}
			coefs, l, own = append(coefs, pick(r, someRatio(r), broken(1, 1))), append(l, one), append(own, roomyLinear(one))
		}
		if r.Intn(20) == 0 {
			coefs = append(coefs, wrongRatios()[3])
		}
		ownCoefs := roomyRatios(coefs)
		own = roomy(own, sumOf(11, on("room"), 12))
		given := ratioSpans(ownCoefs...)
		for _, one := range own {
			given = append(given, linearSpans(one)...)
		}
		keys, parts, n, ok := linear.Sum(ownCoefs, own...)
		keysAgain, partsAgain, nAgain, okAgain := linear.Sum(coefs, l...)
		if ok != okAgain || !slices.Equal(keys, keysAgain) || !slices.EqualFunc(parts, partsAgain, sameRatio) || !sameRatio(n, nAgain) {
			t.Fatal(shortParts(keys, parts, n), "is not", shortParts(keysAgain, partsAgain, nAgain))
		}
		apart(t, shortParts(keys, parts, n), slices.Concat(spanOf(keys), spanOf(parts), ratioSpans(parts...), ratioSpans(n)), given...)
		if !slices.EqualFunc(ownCoefs, coefs, untouchedRatio) || !filled(ownCoefs, sameRatio, broken(11, 13)) || !slices.EqualFunc(own, l, untouchedLinear) || !filled(own, same, sumOf(11, on("room"), 12)) {
			t.Fatal("an argument is changed:", shortParts(keys, parts, n))
		}
	}
}

func TestWhatIsChangedInAnAnswerIsNotInTheNext(t *testing.T) {
	_, _, zero, _ := linear.Sum(brokens("1"))
	zero.Den.Digits[0] = 5
	refused(t, brokens("1"), nil)
	_, _, zero, _ = linear.Sum(nil)
	zero.Den.Digits[0] = 5
	told(t, nil, nil, nil, nil, broken(0, 1))
	l, _ := linear.Of(name("x"))
	l.Coefs[0].Digits[0], l.Keys[0] = 5, y
	l, ok := linear.Of(name("x"))
	holds(t, l, ok, sumOf(0, on(x), 1), true)
}

func TestOneThingIsAnsweredAlikeEachTime(t *testing.T) {
	r := rand.New(rand.NewSource(10))
	a, l := someTerm(r, 60), []api.Linear{someLinear(r), someLinear(r), someLinear(r)}
	coefs := brokens("1/2", "-3", "2/7")
	want, wantOK := linear.Of(a)
	keys, parts, n, _ := linear.Sum(coefs, l...)
	if len(want.Keys) < 5 || len(keys) < 5 {
		t.Fatal(short(want), shortParts(keys, parts, n))
	}
	for range 50 {
		got, ok := linear.Of(a)
		holds(t, got, ok, want, wantOK)
		told(t, coefs, l, keys, parts, n)
	}
}

func TestEmptyAndNilListsAreOne(t *testing.T) {
	none := api.Int{Digits: []uint32{}}
	empty := api.Linear{Keys: []string{}, Coefs: []api.Int{}, Const: none}
	for _, a := range []api.Term{{Kind: api.TermNum, Num: none, Kids: []api.Term{}}, {Kind: api.TermAdd, Num: none, Kids: []api.Term{}}, scaledBy(none, name("x")), scaledBy(num.Of(2), api.Term{Kind: api.TermNum, Num: none})} {
		got, ok := linear.Of(a)
		holds(t, got, ok, api.Linear{}, true)
	}
	got, ok := linear.Of(add(name("x"), api.Term{Kind: api.TermVar, Name: "x", Num: none, Kids: []api.Term{}}))
	holds(t, got, ok, sumOf(0, on(x), 2), true)
	zero := api.Ratio{Num: none, Den: num.Of(1)}
	told(t, []api.Ratio{zero, broken(2, 1)}, []api.Linear{sumOf(1, on(x), 1), empty}, nil, nil, broken(0, 1))
	told(t, []api.Ratio{}, []api.Linear{}, nil, nil, broken(0, 1))
	refused(t, []api.Ratio{}, []api.Linear{empty})
	if !linear.Right(empty) || linear.Right(api.Linear{Keys: on(x), Coefs: []api.Int{none}}) || linear.Right(api.Linear{Const: api.Int{Neg: true, Digits: []uint32{}}}) {
		t.Error("right")
	}
	made, ok := linear.Term(on(x), []api.Int{none})
	if !ok || !sameTerm(made, add(scaled(0, name("x")))) {
		t.Error("term", ok, term.Key(made))
	}
}
