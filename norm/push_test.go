package norm_test

import (
	"testing"

	"whetstone/api"
	"whetstone/norm"
	"whetstone/num"
	"whetstone/term"
)

// P7.2

func one() api.Term { return number(1) }

func TestTheDocumentsExamples(t *testing.T) {
	x, p, q := name("n"), name("p"), name("q")
	told(t, most(x, number(3)), false, most(add(number(3), one()), x))
	told(t, iff(p, q), false, and(or(p, q), or(not(p), not(q))))
}

// Each row of the table, both ways; what is made anew has nothing beside, and what is told as it is has all of it.
func TestTable(t *testing.T) {
	n, m, p, q, l, k := name("n"), name("m"), name("p"), name("q"), name("l"), name("k")
	truth := app("LATE.0", l)
	le, numbers, data := most(n, m), equals(n, m), equals(l, k)
	more := func(a api.Term) api.Term { return add(a, one()) }
	apart := or(most(more(n), m), most(more(m), n))
	for _, c := range []struct{ t, is, denied api.Term }{
		{yes(), yes(), no()}, {no(), no(), yes()}, {laden(yes()), yes(), no()}, {laden(no()), no(), yes()},
		{p, p, not(p)}, {laden(p), laden(p), not(laden(p))}, {truth, truth, not(truth)}, {laden(truth), laden(truth), not(laden(truth))}, {app("BOX.0", name("b")), app("BOX.0", name("b")), not(app("BOX.0", name("b")))},
		{le, le, most(more(m), n)}, {most(n, n), most(n, n), most(more(n), n)}, {laden(le), laden(le), most(more(m), n)}, {most(laden(n), laden(m)), most(laden(n), laden(m)), most(more(laden(m)), laden(n))}, {most(number(3), add(n, one())), most(number(3), add(n, one())), most(more(add(n, one())), number(3))},
		{numbers, numbers, apart}, {laden(numbers), laden(numbers), apart}, {equals(n, n), equals(n, n), or(most(more(n), n), most(more(n), n))}, {equals(laden(n), m), equals(laden(n), m), or(most(more(laden(n)), m), most(more(m), laden(n)))},
		{data, data, not(data)}, {laden(data), laden(data), not(laden(data))}, {equals(l, l), equals(l, l), not(equals(l, l))},
		{not(p), not(p), p}, {laden(not(p)), not(p), p}, {not(yes()), no(), yes()}, {not(laden(no())), yes(), no()}, {not(le), most(more(m), n), le}, {not(numbers), apart, numbers}, {not(data), not(data), data}, {not(not(p)), p, not(p)}, {not(not(not(laden(le)))), most(more(m), n), laden(le)},
		{and(), and(), or()}, {or(), or(), and()}, {laden(and()), and(), or()}, {laden(or()), or(), and()}, {and(p), and(p), or(not(p))}, {or(p), or(p), and(not(p))},
		{and(p, le, q), and(p, le, q), or(not(p), most(more(m), n), not(q))}, {or(p, le, q), or(p, le, q), and(not(p), most(more(m), n), not(q))}, {laden(and(laden(p))), and(laden(p)), or(not(laden(p)))},
		{iff(p, q), and(or(not(p), q), or(not(q), p)), and(or(p, q), or(not(p), not(q)))}, {laden(iff(p, q)), and(or(not(p), q), or(not(q), p)), and(or(p, q), or(not(p), not(q)))},
		{iff(le, numbers), and(or(most(more(m), n), numbers), or(apart, le)), and(or(le, numbers), or(most(more(m), n), apart))}, {iff(yes(), no()), and(or(no(), no()), or(yes(), yes())), and(or(yes(), no()), or(no(), yes()))},
	} {
		told(t, c.t, true, c.is)
		told(t, c.t, false, c.denied)
		told(t, not(c.t), false, c.is)
		told(t, laden(not(c.t)), true, c.denied)
		told(t, and(p, c.t), true, and(p, c.is))
		told(t, or(c.t, p), false, and(c.denied, not(p)))
		told(t, iff(c.t, q), true, and(or(c.denied, q), or(not(q), c.is)))
		told(t, iff(q, c.t), false, and(or(q, c.is), or(not(q), c.denied)))
	}
}

func TestWhatIsWithin(t *testing.T) {
	p, q, r := name("p"), name("q"), app("BOX.0", name("b"))
	told(t, not(and(p, or(q, not(r)), not(and()))), true, or(not(p), and(not(q), r), and()))
	told(t, or(and(p, q), not(or(p, not(and(q, r))))), false, and(or(not(p), not(q)), or(p, or(not(q), not(r)))))
	inner := and(or(not(p), q), or(not(q), p))
	denied := and(or(p, q), or(not(p), not(q)))
	told(t, iff(iff(p, q), r), true, and(or(denied, r), or(not(r), inner)))
	told(t, iff(r, not(iff(p, q))), true, and(or(not(r), denied), or(inner, r)))
	told(t, iff(iff(p, q), iff(p, q)), false, and(or(inner, inner), or(denied, denied)))
}

// Whether an equality is one of numbers hangs on the sort of what stands in it, in this scope, with these data.
func TestEqualitiesOfNumbersAndOfData(t *testing.T) {
	more := func(a api.Term) api.Term { return add(a, one()) }
	for _, c := range []struct {
		a, b    api.Term
		numbers bool
	}{
		{name("n"), one(), true}, {one(), name("n"), true}, {add(), scaled(-1, add()), true}, {app("tag", name("l")), app("tag", name("b")), true}, {app("CONS.0", name("l")), one(), true}, {app("E.0", name("e")), app("E.0", app("E.1", name("e"))), true},
		{name("late"), name("n"), true}, {name("turned"), name("l"), false}, {name("l"), app("CONS.1", name("k")), false}, {app("CONS.1", name("k")), name("l"), false}, {name("b"), name("b"), false}, {name("e"), app("E.1", name("e")), false}, {app("BOX.2", name("b")), name("e"), false}, {app("BOX.1", name("b")), name("l"), false},
	} {
		a := equals(c.a, c.b)
		told(t, a, true, a)
		if c.numbers {
			told(t, a, false, or(most(more(c.a), c.b), most(more(c.b), c.a)))
			continue
		}
		told(t, a, false, not(a))
	}
	// The same equality, in two scopes.
	x := equals(name("x"), name("y"))
	for sort, want := range map[string]api.Term{"int": or(most(more(name("x")), name("y")), most(more(name("y")), name("x"))), "list": not(x)} {
		got, e := norm.Push(world(), []api.Sorted{{Name: "x", Sort: "bool"}, {Name: "y", Sort: sort}, {Name: "x", Sort: sort}}, x, false)
		if e != api.OK || !same(got, want) {
			t.Error(sort, e, short(got))
		}
	}
	// The same function, of a number and of data.
	x = equals(app("C.0", name("c")), app("C.0", name("c")))
	for sort, want := range map[string]api.Term{"int": or(most(more(x.Kids[0]), x.Kids[1]), most(more(x.Kids[1]), x.Kids[0])), "d": not(x)} {
		got, e := norm.Push([]api.Data{{Name: "d", Cons: []api.Con{{Name: "C", Fields: []string{sort}}}}}, []api.Sorted{{Name: "c", Sort: "d"}}, x, false)
		if e != api.OK || !same(got, want) {
			t.Error(sort, e, short(got))
		}
	}
}

func TestErrors(t *testing.T) {
	p, n, l := name("p"), name("n"), name("l")
	for _, c := range []struct {
		t api.Term
		e api.Errno
	}{
		// Those of term.Sort.
		{name("none"), api.ErrName}, {and(p, name("none")), api.ErrName}, {iff(p, most(n, name("none"))), api.ErrName},
		{and(p, n), api.ErrSort}, {not(n), api.ErrSort}, {not(l), api.ErrSort}, {or(yes(), l), api.ErrSort}, {iff(p, n), api.ErrSort}, {most(n, l), api.ErrSort}, {most(p, p), api.ErrSort}, {equals(p, p), api.ErrSort}, {equals(n, l), api.ErrSort}, {equals(l, name("b")), api.ErrSort}, {equals(l, name("e")), api.ErrSort},
		{name("odd"), api.ErrSort}, {and(name("odd")), api.ErrSort}, {app("none.0", l), api.ErrSort}, {app("LATE.1", l), api.ErrSort}, {app("LATE.0", name("b")), api.ErrSort}, {app("BOX.3", name("b")), api.ErrSort}, {app("ODD.0", name("b")), api.ErrSort}, {app("INT.0", n), api.ErrSort},
		{kappa("K"), api.ErrSort}, {kappa("K", n), api.ErrSort}, {and(kappa("K")), api.ErrSort}, {api.Term{}, api.ErrSort}, {kids(noKind), api.ErrSort}, {kids(255, p), api.ErrSort},
		{not(), api.ErrMany}, {not(p, p), api.ErrMany}, {iff(p), api.ErrMany}, {iff(p, p, p), api.ErrMany}, {iff(), api.ErrMany}, {most(n), api.ErrMany}, {equals(l, l, l), api.ErrMany}, {app("LATE.0"), api.ErrMany}, {kids(api.TermTrue, p), api.ErrMany}, {kids(api.TermFalse, p), api.ErrMany}, {kids(api.TermVar, p), api.ErrMany},
		// The first one of term.Sort's.
		{and(name("none"), not()), api.ErrName}, {and(not(), name("none")), api.ErrMany}, {not(name("none"), p), api.ErrMany}, {and(n, name("none")), api.ErrName}, {iff(most(n, l), not()), api.ErrSort}, {not(and(p, not(kids(api.TermVar, p)))), api.ErrMany},
		// What has a sort, but not bool.
		{n, api.ErrSort}, {l, api.ErrSort}, {name("e"), api.ErrSort}, {one(), api.ErrSort}, {add(), api.ErrSort}, {add(n, n), api.ErrSort}, {scaled(2, n), api.ErrSort}, {app("tag", l), api.ErrSort}, {app("CONS.0", l), api.ErrSort}, {app("CONS.1", l), api.ErrSort},
	} {
		refused(t, c.t, c.e)
	}
	for _, wrong := range wrongNumbers() {
		refused(t, most(n, api.Term{Kind: api.TermNum, Num: wrong}), api.ErrSort)
		refused(t, not(equals(api.Term{Kind: api.TermScale, Num: wrong, Kids: []api.Term{n}}, n)), api.ErrSort)
	}
	for _, c := range []struct {
		datas []api.Data
		scope []api.Sorted
	}{{nil, row()}, {world(), nil}} {
		if _, e := norm.Push(c.datas, c.scope, equals(l, l), false); e == api.OK {
			t.Error("taken without data, or without a scope")
		}
	}
}

// wide is an and that has so many parts, the kids being truths.
func wide(size int) api.Term { return and(times(size-1, name("p"))...) }

func TestErrGrownIsBehindAllOthers(t *testing.T) {
	great := wide(30000)
	refused(t, great, api.ErrGrown)
	refused(t, and(great, name("none")), api.ErrName)
	refused(t, and(name("n"), great), api.ErrSort)
	refused(t, or(great, not()), api.ErrMany)
	refused(t, add(times(30000, name("n"))...), api.ErrSort)
	refused(t, iff(great, name("n")), api.ErrSort)
}

// The edge: what is made may have 20000 parts, and not one more; how many were given is not asked.
func TestTheEdgeOfErrGrown(t *testing.T) {
	p, n := name("p"), name("n")
	for i, c := range []struct {
		t    api.Term
		is   bool
		size int // of what is made
	}{
		{wide(20000), true, 20000}, {wide(20001), true, 20001}, {wide(10000), false, 19999}, {wide(10001), false, 20001}, {and(append(times(9999, p), yes())...), false, 20000}, {and(append(times(10000, p), yes())...), false, 20002},
		{not(wide(20000)), false, 20000}, {not(wide(20001)), false, 20001}, {not(not(wide(20000))), true, 20000}, {deep(5, or(times(19999, not(p))...)), true, 20000}, {deep(5, or(times(20000, not(p))...)), true, 20001}, {deep(20005, p), true, 2}, {deep(20006, p), true, 1}, {deep(50000, p), false, 2},
		{most(add(times(19997, n)...), n), true, 20000}, {most(add(times(19998, n)...), n), true, 20001}, {most(add(times(19995, n)...), n), false, 20000}, {most(add(times(19996, n)...), n), false, 20001},
		{equals(add(times(19997, n)...), n), true, 20000}, {equals(add(times(19998, n)...), n), true, 20001}, {equals(add(times(9994, n)...), n), false, 19999}, {equals(add(times(9995, n)...), n), false, 20001}, {or(equals(add(times(9994, n)...), n)), false, 20000}, {or(equals(add(times(9995, n)...), n)), false, 20002},
		{app("LATE.0", lists(19999)), true, 20000}, {app("LATE.0", lists(20000)), true, 20001}, {app("LATE.0", lists(19998)), false, 20000}, {app("LATE.0", lists(19999)), false, 20001}, {equals(lists(9999), lists(10000)), true, 20000}, {equals(lists(10000), lists(10000)), true, 20001}, {equals(lists(9999), lists(9999)), false, 20000}, {equals(lists(9999), lists(10000)), false, 20001},
		{iff(or(times(6664, p)...), p), true, 20000}, {iff(or(times(6665, p)...), p), true, 20003}, {iff(and(times(6664, p)...), p), false, 20000}, {iff(p, and(times(6665, p)...)), false, 20003},
	} {
		got, e := push(c.t, c.is)
		switch {
		case c.size <= 20000 && (e != api.OK || term.Size(got) != c.size || !same(got, reckon(c.t, c.is))):
			t.Error(i, c.is, c.size, ":", e, term.Size(got))
		case c.size > 20000 && (e != api.ErrGrown || !same(got, api.Term{})):
			t.Error(i, c.is, c.size, ":", e)
		case term.Size(reckon(c.t, c.is)) != c.size:
			t.Error("the test is wrong:", i, c.is, c.size, term.Size(reckon(c.t, c.is)))
		}
	}
}

// lists is a list that has so many parts.
func lists(size int) api.Term {
	l := name("l")
	for range size - 1 {
		l = app("CONS.1", l)
	}
	return l
}

// Only the way that is asked counts.
func TestWhatIsTooGreatTheOtherWay(t *testing.T) {
	rows := times(4000, equals(name("n"), name("m"))) // 3 parts each, and 11 denied
	for _, joined := range []api.Term{and(rows...), or(rows...)} {
		told(t, joined, true, joined)
		told(t, not(joined), false, joined)
		for is, a := range map[bool]api.Term{false: joined, true: not(joined)} {
			if got, e := push(a, is); e != api.ErrGrown || !same(got, api.Term{}) {
				t.Error(is, e)
			}
		}
	}
}

// Iffs within iffs grow beyond all numbers.
func TestIffsWithinIffs(t *testing.T) {
	p := name("p")
	left, right := p, p
	for depth := range 5000 {
		left, right = iff(left, p), iff(p, not(right))
		if depth > 15 && depth < 200 || depth == 4999 {
			refused(t, left, api.ErrGrown)
			refused(t, right, api.ErrGrown)
		}
	}
	both := p
	for range 12 {
		both = iff(both, both)
	}
	refused(t, both, api.ErrGrown)
	refused(t, and(both, name("none")), api.ErrName)
	// As many as are still taken, and as the first ones that are not.
	a := p
	for depth := range 16 {
		for _, is := range []bool{true, false} {
			got, e := push(a, is)
			if e != reckonErr(a, is) || e == api.OK && !same(got, reckon(a, is)) {
				t.Error(depth, is, e)
			}
		}
		a = iff(a, p)
	}
}

func TestLongNumbers(t *testing.T) {
	great := api.Term{Kind: api.TermNum, Num: api.Int{Neg: true, Digits: times9(5000)}}
	told(t, most(great, name("n")), false, most(add(name("n"), one()), great))
	told(t, equals(name("n"), great), true, equals(name("n"), great))
	if !num.Right(great.Num) {
		t.Error("the test is wrong")
	}
}

// times9 are so many digits, each the greatest one.
func times9(n int) []uint32 {
	l := make([]uint32, n)
	for i := range l {
		l[i] = api.Base - 1
	}
	return l
}
