package linear_test

import (
	"math/big"
	"math/rand"
	"slices"
	"testing"

	"whetstone/api"
	"whetstone/linear"
	"whetstone/num"
	"whetstone/term"
)

// P6.1

func TestOfSums(t *testing.T) {
	vx, vy, vz := name("x"), name("y"), name("z")
	great := num.Mul(num.Of(1<<62), num.Of(1<<62))
	for i, c := range []struct {
		t    api.Term
		want api.Linear
	}{
		// The document's examples.
		{add(vx, scaled(2, vx), literal(3), literal(-3)), sumOf(0, on(x), 3)}, {scaled(0, vx), sumOf(0, nil)},
		// One part.
		{vx, sumOf(0, on(x), 1)}, {literal(0), sumOf(0, nil)}, {literal(7), sumOf(7, nil)}, {literal(-7), sumOf(-7, nil)}, {number(great), api.Linear{Const: great}}, {add(), sumOf(0, nil)}, {add(add(), add()), sumOf(0, nil)}, {scaled(3, add()), sumOf(0, nil)},
		{app("tag", vx), sumOf(0, on("7 3:tag  1;"+x), 1)}, {scaled(2, app("tag", vx)), sumOf(0, on("7 3:tag  1;"+x), 2)},
		// Times.
		{scaled(-2, vx), sumOf(0, on(x), -2)}, {scaled(3, literal(5)), sumOf(15, nil)}, {scaled(3, scaled(-4, vx)), sumOf(0, on(x), -12)}, {scaled(2, add(vx, literal(5), scaled(3, vy))), sumOf(10, on(x, y), 2, 6)},
		{add(scaled(2, vx), scaled(3, add(vx, literal(1))), scaled(5, scaled(7, add(vx, vy)))), sumOf(3, on(x, y), 40, 35)}, {scaledBy(great, add(vx, literal(-1))), api.Linear{Keys: on(x), Coefs: []api.Int{great}, Const: num.Neg(great)}},
		// An atom under several kids, in any order; the keys rise.
		{add(vy, vx), sumOf(0, on(x, y), 1, 1)}, {add(vz, vx, vy, vx, vz, vx), sumOf(0, on(x, y, z), 3, 1, 2)}, {add(add(vx, vy), add(vy, add(vx, add(vz)))), sumOf(0, on(x, y, z), 2, 2, 1)}, {add(scaled(2, vx), vy, scaled(5, vx), scaled(-1, vy), vy), sumOf(0, on(x, y), 7, 1)},
		// 0 times.
		{add(vx, scaled(-1, vx)), sumOf(0, nil)}, {add(vx, vx, scaled(-2, vx), vy), sumOf(0, on(y), 1)}, {add(vx, scaled(-1, vx), vx), sumOf(0, on(x), 1)}, {scaled(0, add(vx, vy, literal(5))), sumOf(0, nil)}, {add(vx, scaled(0, add(vx, literal(9)))), sumOf(0, on(x), 1)},
		{scaled(3, add(vx, scaled(-1, vx), vy)), sumOf(0, on(y), 3)}, {scaled(5, scaled(0, vx)), sumOf(0, nil)}, {scaled(0, scaled(5, vx)), sumOf(0, nil)}, {add(literal(5), literal(-5)), sumOf(0, nil)}, {add(scaled(2, vx), literal(1), scaled(-2, add(vx, literal(3)))), sumOf(-5, nil)},
		{add(scaledBy(great, vx), scaledBy(num.Neg(great), vx), number(great), number(num.Neg(great))), sumOf(0, nil)},
	} {
		got, ok := linear.Of(c.t)
		if !ok || !same(got, c.want) {
			t.Error(i, ok, short(got), "is not", short(c.want))
		}
		if !linear.Right(got) {
			t.Error(i, "not right:", short(got))
		}
	}
}

// What an atom is made of is not asked: it is known by all of its Key.
func TestOfAtoms(t *testing.T) {
	vx := name("x")
	wrong := api.Int{Neg: true, Digits: []uint32{0, full}}
	laden := api.Term{Kind: api.TermVar, Name: "x", Num: wrong, Kids: []api.Term{equals()}}
	for i, c := range []struct {
		t    api.Term
		want api.Linear
	}{
		{laden, sumOf(0, on("1 1:x -0.4294967295. 1;8 0:  2;"+x+x), 1)}, {add(laden, vx, laden), sumOf(0, on("1 1:x  0;", "1 1:x -0.4294967295. 1;8 0:  2;"+x+x), 1, 2)}, {name(""), sumOf(0, on("1 0:  0;"), 1)},
		{app("tag"), sumOf(0, on("7 3:tag  0;"), 1)}, {app("f", vx, vx), sumOf(0, on("7 1:f  2;"+x+x), 1)}, {app("f", equals()), sumOf(0, on("7 1:f  1;8 0:  2;"+x+x), 1)}, {app("f", number(wrong)), sumOf(0, on("7 1:f  1;2 0: -0.4294967295. 0;"), 1)}, {app("f", scaled(1)), sumOf(0, on("7 1:f  1;6 0: 1. 0;"), 1)},
		{add(app("f", vx), scaled(-1, app("f", add(vx)))), sumOf(0, on("7 1:f  1;"+x, "7 1:f  1;5 0:  1;"+x), 1, -1)}, {add(app("f", name("y")), app("f", vx)), sumOf(0, on("7 1:f  1;"+x, "7 1:f  1;"+y), 1, 1)},
		// One text is the other's beginning, or they part in the last byte alone, as bytes go.
		{add(name("xx"), vx, name("x1")), sumOf(0, on("1 1:x  0;", "1 2:x1  0;", "1 2:xx  0;"), 1, 1, 1)}, {add(name("b"), name("a"), name("\xff"), name("\x00")), sumOf(0, on("1 1:\x00  0;", "1 1:a  0;", "1 1:b  0;", "1 1:\xff  0;"), 1, 1, 1, 1)}, {add(name("é"), name("zz")), sumOf(0, on("1 2:zz  0;", "1 2:é  0;"), 1, 1)},
		{add(name("ten bytes!"), vx), sumOf(0, on("1 10:ten bytes!  0;", x), 1, 1)},
		// What kinds do not name is not asked.
		{api.Term{Kind: api.TermAdd, Name: "x", Num: wrong, Kids: []api.Term{vx}}, sumOf(0, on(x), 1)}, {api.Term{Kind: api.TermScale, Name: "x", Num: num.Of(2), Kids: []api.Term{vx}}, sumOf(0, on(x), 2)}, {api.Term{Kind: api.TermNum, Name: "x", Num: num.Of(2)}, sumOf(2, nil)},
	} {
		got, ok := linear.Of(c.t)
		if !ok || !same(got, c.want) {
			t.Error(i, ok, short(got), "is not", short(c.want))
		}
	}
}

func TestOfWhatIsNoSum(t *testing.T) {
	vx := name("x")
	l := []api.Term{{}, equals(), scaled(2), scaled(2, vx, vx), scaled(0), scaled(0, vx, vx), scaled(2, equals()), scaled(0, equals()), {Kind: api.TermNum, Num: num.Of(3), Kids: []api.Term{vx}}, {Kind: api.TermNum, Num: num.Of(3), Kids: []api.Term{literal(3), literal(3)}}, {Kind: api.TermNum, Kids: []api.Term{{}}}}
	for _, wrong := range wrongNumbers() {
		l = append(l, number(wrong), scaledBy(wrong, vx), scaledBy(wrong, literal(1)), scaledBy(wrong, equals()), scaledBy(wrong), scaledBy(wrong, vx, vx), scaled(0, number(wrong)), scaled(0, scaledBy(wrong, vx)), scaledBy(wrong, scaled(0, vx)))
	}
	for kind := range 256 {
		one := api.Term{Kind: api.TermKind(kind), Name: "x", Num: num.Of(1), Kids: []api.Term{vx, vx}}
		if !slices.Contains([]api.TermKind{api.TermVar, api.TermAdd, api.TermApp}, one.Kind) {
			l = append(l, one)
		}
		one.Kids = one.Kids[:1]
		if !slices.Contains([]api.TermKind{api.TermVar, api.TermAdd, api.TermApp, api.TermScale}, one.Kind) {
			l = append(l, one)
		}
		one.Kids = nil
		if !slices.Contains([]api.TermKind{api.TermVar, api.TermAdd, api.TermApp, api.TermNum}, one.Kind) {
			l = append(l, one)
		}
	}
	for i, no := range l {
		for j, a := range []api.Term{no, add(no), add(no, vx, literal(1)), add(vx, literal(1), no), add(vx, no, vx), scaled(2, no), scaled(0, no), add(vx, add(scaled(3, add(vx, no)))), add(scaled(0, add(no))), add(no, scaled(-1, no))} {
			if got, ok := linear.Of(a); ok || !same(got, api.Linear{}) {
				t.Error(i, j, short(got), ok)
			}
		}
	}
}

// tally is what a term is a sum of, in the words of the document.
type tally struct {
	n     *big.Int
	times map[string]*big.Int
}

func tallied(t api.Term) (tally, bool) {
	sum := tally{new(big.Int), map[string]*big.Int{}}
	switch {
	case t.Kind == api.TermVar || t.Kind == api.TermApp:
		sum.times[term.Key(t)] = big.NewInt(1)
	case t.Kind == api.TermNum && len(t.Kids) == 0 && num.Right(t.Num):
		sum.n = bigOf(t.Num)
	case t.Kind == api.TermScale && len(t.Kids) == 1 && num.Right(t.Num), t.Kind == api.TermAdd:
		by := big.NewInt(1)
		if t.Kind == api.TermScale {
			by = bigOf(t.Num)
		}
		for _, kid := range t.Kids {
			a, ok := tallied(kid)
			if !ok {
				return tally{}, false
			}
			sum.n.Add(sum.n, new(big.Int).Mul(by, a.n))
			for key, n := range a.times {
				if sum.times[key] == nil {
					sum.times[key] = new(big.Int)
				}
				sum.times[key].Add(sum.times[key], new(big.Int).Mul(by, n))
			}
		}
	default:
		return tally{}, false
	}
	return sum, true
}

// linear is a tally as a right linear.
func (a tally) linear() api.Linear {
	var l api.Linear
	for key, n := range a.times {
		if n.Sign() != 0 {
			l.Keys = append(l.Keys, key)
		}
	}
	slices.Sort(l.Keys)
	for _, key := range l.Keys {
		n, _ := num.Parse(a.times[key].String())
		l.Coefs = append(l.Coefs, n)
	}
	l.Const, _ = num.Parse(a.n.String())
	return l
}

func TestOfIsWhatTheWordsSay(t *testing.T) {
	r := rand.New(rand.NewSource(1))
	sums, others, emptied := 0, 0, 0
	for range 12000 {
		a := someTerm(r, 1+r.Intn(25))
		if r.Intn(3) == 0 {
			a = spoilt(r, a)
		}
		var want api.Linear
		by, wantOK := tallied(a)
		if wantOK {
			want = by.linear()
		}
		got, ok := linear.Of(a)
		holds(t, got, ok, want, wantOK, term.Key(a))
		switch {
		case !ok:
			others++
		case !linear.Right(got):
			t.Fatal("not right:", short(got))
		case len(got.Keys) < len(by.times):
			emptied++
		default:
			sums++
		}
	}
	if sums < 8000 || others < 800 || emptied < 800 {
		t.Error(sums, others, emptied)
	}
}

func TestRight(t *testing.T) {
	for i, c := range []struct {
		l     api.Linear
		right bool
	}{
		{api.Linear{}, true}, {sumOf(0, nil), true}, {sumOf(-5, nil), true}, {sumOf(0, on(x), 1), true}, {sumOf(7, on(x, y, z), 1, -2, 3), true}, {api.Linear{Keys: on(x), Coefs: []api.Int{num.Mul(num.Of(1<<62), num.Of(-1<<62))}}, true},
		{api.Linear{Keys: []string{}, Coefs: []api.Int{}, Const: api.Int{Digits: []uint32{}}}, true},
		// Keys rise, byte by byte, each once.
		{sumOf(0, on(y, x), 1, 1), false}, {sumOf(0, on(x, x), 1, 1), false}, {sumOf(0, on(x, y, x), 1, 1, 1), false}, {sumOf(0, on(x, z, y), 1, 1, 1), false}, {sumOf(0, on(y, x, z), 1, 1, 1), false}, {sumOf(0, on(x, y, y), 1, 1, 1), false}, {sumOf(0, on(x, x, y), 1, 1, 1), false}, {sumOf(0, on(z, y, x), 1, 1, 1), false},
		{sumOf(0, on("a", "b"), 1, 1), true}, {sumOf(0, on("b", "a"), 1, 1), false}, {sumOf(0, on("ka", "kb"), 1, 1), true}, {sumOf(0, on("kb", "ka"), 1, 1), false}, {sumOf(0, on("a", "ab"), 1, 1), true}, {sumOf(0, on("ab", "a"), 1, 1), false}, {sumOf(0, on("a", "a\x00"), 1, 1), true}, {sumOf(0, on("a\x00", "a"), 1, 1), false},
		{sumOf(0, on("b", "ab"), 1, 1), false}, {sumOf(0, on("ab", "b"), 1, 1), true}, {sumOf(0, on("z", "é", "\xff"), 1, 1, 1), true}, {sumOf(0, on("é", "z"), 1, 1), false}, {sumOf(0, on("\xff", "é"), 1, 1), false}, {sumOf(0, on("B", "a"), 1, 1), true}, {sumOf(0, on("10", "9"), 1, 1), true}, {sumOf(0, on("9", "10"), 1, 1), false},
		// What is no key is a text like any.
		{sumOf(0, on(""), 1), true}, {sumOf(0, on("", "a"), 1, 1), true}, {sumOf(0, on("", ""), 1, 1), false}, {sumOf(0, on("3 0:  0;"), 1), true},
		// As many coefs.
		{sumOf(0, on(x)), false}, {sumOf(0, nil, 1), false}, {sumOf(0, on(x), 1, 1), false}, {sumOf(0, on(x, y), 1), false}, {sumOf(0, on(x, y, z), 1, 1), false}, {sumOf(0, on(x, y), 1, 1, 1), false},
		// None of them 0.
		{sumOf(0, on(x), 0), false}, {sumOf(0, on(x, y), 0, 1), false}, {sumOf(0, on(x, y), 1, 0), false}, {sumOf(0, on(x, y, z), 1, 0, 1), false}, {sumOf(1, on(x), 0), false},
	} {
		if linear.Right(c.l) != c.right {
			t.Error(i, short(c.l))
		}
	}
	for _, wrong := range wrongNumbers() {
		for place := range 3 {
			l := sumOf(5, on(x, y, z), 1, 2, 3)
			l.Coefs[place] = wrong
			if linear.Right(l) {
				t.Error(short(l))
			}
		}
		l := sumOf(5, on(x, y, z), 1, 2, 3)
		l.Const = wrong
		if linear.Right(l) || linear.Right(api.Linear{Const: wrong}) {
			t.Error(short(l))
		}
	}
}

// isRight is Right in the words of the document.
func isRight(l api.Linear) bool {
	right := num.Right(l.Const) && len(l.Coefs) == len(l.Keys)
	for i := range l.Keys {
		right = right && num.Right(l.Coefs[i]) && bigOf(l.Coefs[i]).Sign() != 0
		for j := range i {
			right = right && l.Keys[j] < l.Keys[i]
		}
	}
	return right
}

// someWrong is a linear with one place changed, so that it may be not right any more.
func someWrong(r *rand.Rand, l api.Linear) api.Linear {
	l.Keys, l.Coefs = slices.Clone(l.Keys), slices.Clone(l.Coefs)
	wrong := pick(r, append(wrongNumbers(), api.Int{}, num.Of(5))...)
	switch r.Intn(6) {
	case 0:
		l.Const = wrong
	case 1:
		l.Coefs = append(l.Coefs, num.Of(1))
	case 2:
		l.Keys = append(l.Keys, pick(r, x, "", "\xff"))
	case 3:
		l.Keys, l.Coefs = append(l.Keys, pick(r, x, "", "\xff")), append(l.Coefs, wrong)
	case 4:
		if len(l.Coefs) > 0 {
			l.Coefs[r.Intn(len(l.Coefs))] = wrong
		}
	case 5:
		if len(l.Keys) > 0 {
			l.Keys[r.Intn(len(l.Keys))] = pick(r, l.Keys...)
		}
	}
	return l
}

func TestRightIsWhatTheWordsSay(t *testing.T) {
	r := rand.New(rand.NewSource(2))
	right, others := 0, 0
	for range 20000 {
		l := someLinear(r)
		if !linear.Right(l) {
			t.Fatal(short(l))
		}
		l = someWrong(r, l)
		if linear.Right(l) != isRight(l) {
			t.Fatal(short(l))
		}
		if isRight(l) {
			right++
		} else {
			others++
		}
	}
	if right < 2000 || others < 10000 {
		t.Error(right, others)
	}
}
