package linear_test

import (
	"math/big"
	"math/rand"
	"slices"
	"strconv"
	"strings"
	"testing"

	"whetstone/api"
	"whetstone/num"
	"whetstone/ratio"
	"whetstone/term"
)

const (
	full   = 1<<32 - 1 // the greatest digit that there is
	noKind = 15        // the first kind of terms that there is not
)

// Terms.

func kids(kind api.TermKind, l ...api.Term) api.Term { return api.Term{Kind: kind, Kids: l} }
func name(s string) api.Term                         { return api.Term{Kind: api.TermVar, Name: s} }
func literal(n int64) api.Term                       { return number(num.Of(n)) }
func number(n api.Int) api.Term                      { return api.Term{Kind: api.TermNum, Num: n} }
func add(l ...api.Term) api.Term                     { return kids(api.TermAdd, l...) }
func app(f string, l ...api.Term) api.Term           { return api.Term{Kind: api.TermApp, Name: f, Kids: l} }
func scaled(n int64, l ...api.Term) api.Term         { return scaledBy(num.Of(n), l...) }
func scaledBy(n api.Int, l ...api.Term) api.Term {
	return api.Term{Kind: api.TermScale, Num: n, Kids: l}
}

// equals is no sum.
func equals() api.Term { return kids(api.TermEq, name("x"), name("x")) }

// deep is inner within so many pairs of an add and a scale by -1.
func deep(depth int, inner api.Term) api.Term {
	for range depth {
		inner = scaled(-1, add(inner))
	}
	return inner
}

// Numbers.

// wrongNumbers are numbers that are not right.
func wrongNumbers() []api.Int {
	return []api.Int{{Neg: true}, {Neg: true, Digits: []uint32{}}, {Digits: []uint32{0}}, {Neg: true, Digits: []uint32{0}}, {Digits: []uint32{7, 0}}, {Digits: []uint32{api.Base}}, {Neg: true, Digits: []uint32{1, full}}}
}

// wrongRatios are ratios that are not right.
func wrongRatios() []api.Ratio {
	l := []api.Ratio{{}, {Num: num.Of(1)}, {Den: num.Of(2)}, {Num: num.Of(2), Den: num.Of(4)}, {Num: num.Of(-3), Den: num.Of(3)}, {Num: num.Of(1), Den: num.Of(-2)}, {Num: num.Of(-1), Den: num.Of(-1)}, {Den: num.Of(-1)}}
	for _, wrong := range wrongNumbers() {
		l = append(l, api.Ratio{Num: wrong, Den: num.Of(1)}, api.Ratio{Num: num.Of(1), Den: wrong})
	}
	return l
}

func broken(n, d int64) api.Ratio {
	a, e := ratio.Of(num.Of(n), num.Of(d))
	if e != api.OK {
		panic(e)
	}
	return a
}

// brokens are ratios of these texts.
func brokens(l ...string) []api.Ratio {
	var all []api.Ratio
	for _, s := range l {
		a, ok := ratio.Parse(s)
		if !ok {
			panic(s)
		}
		all = append(all, a)
	}
	return all
}

func wholes(l ...int64) []api.Int {
	var all []api.Int
	for _, n := range l {
		all = append(all, num.Of(n))
	}
	return all
}

func bigOf(n api.Int) *big.Int {
	sum := new(big.Int)
	for _, d := range slices.Backward(n.Digits) {
		sum.Add(sum.Mul(sum, big.NewInt(api.Base)), big.NewInt(int64(d)))
	}
	if n.Neg {
		sum.Neg(sum)
	}
	return sum
}

func ratOf(a api.Ratio) *big.Rat { return new(big.Rat).SetFrac(bigOf(a.Num), bigOf(a.Den)) }

// Linears.

// x, y and z are the keys of these names.
const (
	x = "1 1:x  0;"
	y = "1 1:y  0;"
	z = "1 1:z  0;"
)

// sumOf is a linear of these keys and coefs, right or not.
func sumOf(n int64, keys []string, coefs ...int64) api.Linear {
	return api.Linear{Keys: keys, Coefs: wholes(coefs...), Const: num.Of(n)}
}

func on(keys ...string) []string { return keys }

// What is told where a thing is not as it should be; all digits, right or not, with the signs.

func shortInt(n api.Int) string {
	text := ""
	if n.Neg {
		text = "-"
	}
	for i, d := range n.Digits {
		if i > 0 {
			text += "."
		}
		text += strconv.Itoa(int(d))
	}
	return text
}

func shortRatio(a api.Ratio) string { return shortInt(a.Num) + "/" + shortInt(a.Den) }

func short(l api.Linear) string {
	text := []string{strings.Join(l.Keys, ","), ":"}
	for _, n := range l.Coefs {
		text = append(text, shortInt(n))
	}
	return strings.Join(append(text, "and", shortInt(l.Const)), " ")
}

func shortParts(keys []string, parts []api.Ratio, n api.Ratio) string {
	text := []string{strings.Join(keys, ","), ":"}
	for _, part := range parts {
		text = append(text, shortRatio(part))
	}
	return strings.Join(append(text, "and", shortRatio(n)), " ")
}

func sameInt(a, b api.Int) bool     { return a.Neg == b.Neg && slices.Equal(a.Digits, b.Digits) }
func sameRatio(a, b api.Ratio) bool { return sameInt(a.Num, b.Num) && sameInt(a.Den, b.Den) }
func same(a, b api.Linear) bool {
	return slices.Equal(a.Keys, b.Keys) && slices.EqualFunc(a.Coefs, b.Coefs, sameInt) && sameInt(a.Const, b.Const)
}
func sameTerm(a, b api.Term) bool {
	return a.Kind == b.Kind && a.Name == b.Name && sameInt(a.Num, b.Num) && slices.EqualFunc(a.Kids, b.Kids, sameTerm)
}

// holds fails, unless a linear is what it should be.
func holds(t *testing.T, got api.Linear, ok bool, want api.Linear, wantOK bool, what ...string) {
	t.Helper()
	if ok != wantOK || !same(got, want) {
		t.Fatalf("%v: %v, not %v: %s is not %s", what, ok, wantOK, short(got), short(want))
	}
}

// Random ones.

// pick is one of them.
func pick[T any](r *rand.Rand, l ...T) T { return l[r.Intn(len(l))] }

// someNumber is a right number: small, 0 often, or of some digits.
func someNumber(r *rand.Rand) api.Int {
	if r.Intn(5) > 0 {
		return num.Of(int64(r.Intn(7)) - 3)
	}
	return num.Mul(num.Of(r.Int63()-1<<62), num.Of(r.Int63()))
}

func someRatio(r *rand.Rand) api.Ratio {
	a, _ := ratio.Of(someNumber(r), num.Of(int64(1+r.Intn(6))))
	return a
}

// someAtoms are atoms of which keys are near to each other.
func someAtoms() []api.Term {
	laden := api.Term{Kind: api.TermVar, Name: "x", Num: num.Of(-7), Kids: []api.Term{name("y")}}
	return []api.Term{name("x"), name("y"), name("z"), name(""), name("xx"), name("x\x00"), name("\xff"), laden, app("tag", name("x")), app("tag", name("y")), app("tag"), app("tag", name("x"), name("x")), app("CONS.0", add(name("x"), literal(1))), app("x", equals()), app("x", number(api.Int{Neg: true}))}
}

// someTerm is a term, most often a sum, of at most so many parts (atoms counted as one).
func someTerm(r *rand.Rand, size int) api.Term {
	if size <= 1 || r.Intn(6) == 0 {
		return someLeaf(r)
	}
	if r.Intn(3) == 0 {
		return scaledBy(someNumber(r), someTerm(r, size-1))
	}
	sum := add()
	for size--; size > 0; {
		part := 1 + r.Intn(size)
		sum.Kids = append(sum.Kids, someTerm(r, part))
		size -= part
	}
	return sum
}

func someLeaf(r *rand.Rand) api.Term {
	if r.Intn(3) > 0 {
		return pick(r, someAtoms()...)
	}
	if r.Intn(6) > 0 {
		return number(someNumber(r))
	}
	return add()
}

// spoilt is t with one part changed, so that it may be no sum any more.
func spoilt(r *rand.Rand, t api.Term) api.Term {
	t.Kids = slices.Clone(t.Kids)
	if len(t.Kids) > 0 && r.Intn(3) > 0 {
		i := r.Intn(len(t.Kids))
		t.Kids[i] = spoilt(r, t.Kids[i])
		return t
	}
	switch r.Intn(5) {
	case 0:
		t.Kind = api.TermKind(r.Intn(noKind + 1))
	case 1:
		t.Num = pick(r, append(wrongNumbers(), num.Of(3), api.Int{})...)
	case 2:
		t.Name += "x"
	case 3:
		t.Kids = append(t.Kids, someLeaf(r))
	case 4:
		t.Kids = t.Kids[:len(t.Kids)/2]
	}
	return t
}

// someLinear is a right linear, of keys or of other texts.
func someLinear(r *rand.Rand) api.Linear {
	l := api.Linear{Const: someNumber(r)}
	for _, atom := range someAtoms() {
		if n := someNumber(r); len(n.Digits) > 0 && r.Intn(3) == 0 {
			l.Keys, l.Coefs = append(l.Keys, term.Key(atom)), append(l.Coefs, n)
		}
	}
	slices.Sort(l.Keys)
	return l
}
