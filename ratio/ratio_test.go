package ratio_test

import (
	"math/big"
	"math/rand"
	"slices"
	"strings"
	"testing"

	"whetstone/api"
	"whetstone/num"
	"whetstone/ratio"
)

const (
	nine = api.Base - 1 // the greatest digit that is right
	full = 1<<32 - 1    // the greatest digit that there is
)

func plus(digits ...uint32) api.Int  { return api.Int{Digits: digits} }
func minus(digits ...uint32) api.Int { return api.Int{Neg: true, Digits: digits} }

// by is n by d, as it stands: right or not.
func by(n, d int64) api.Ratio { return api.Ratio{Num: num.Of(n), Den: num.Of(d)} }

// rights are right ratios at which something may turn.
func rights() []api.Ratio {
	return []api.Ratio{
		by(0, 1), by(1, 1), by(-1, 1), by(2, 1), by(-2, 1), by(1, 2), by(-1, 2), by(3, 2), by(-3, 2), by(2, 3), by(-2, 3), by(5, 6), by(-7, 6),
		by(1, nine), by(-1, nine), by(nine, api.Base), by(-nine, api.Base), by(1, api.Base), by(-1, api.Base), by(api.Base, 1), by(-api.Base, nine),
		{Num: plus(nine, nine), Den: plus(0, 0, 1)}, {Num: minus(1, 0, 1), Den: plus(0, 0, 3)}, {Num: plus(0, 0, 1), Den: plus(1, 1)},
		{Num: plus(709551616, 446744073, 18), Den: plus(nine)}, {Num: minus(0, 0, 1), Den: plus(1)}, {Num: plus(), Den: plus(1)},
	}
}

// wrongs are ratios that are not right.
func wrongs() []api.Ratio {
	return []api.Ratio{
		{}, {Den: api.Int{Digits: []uint32{}}}, by(1, 0), by(-1, 0), by(0, 0), by(7, 0), // Den is 0
		by(1, -1), by(0, -1), by(1, -2), by(-3, -2), by(5, -api.Base), {Num: plus(1), Den: minus()}, // Den is not above 0
		by(2, 2), by(6, 4), by(-6, 4), by(0, 2), by(0, api.Base), by(-5, 5), by(api.Base, 10), {Num: minus(0, 6), Den: plus(0, 0, 9)}, // a common divisor
		{Num: minus(), Den: plus(1)}, {Num: plus(0), Den: plus(1)}, {Num: plus(3, 0), Den: plus(2)}, {Num: plus(api.Base), Den: plus(3)}, {Num: minus(full), Den: plus(7)}, // Num is not right
		{Num: plus(3), Den: plus(2, 0)}, {Num: plus(1), Den: plus(0)}, {Num: plus(1), Den: plus(api.Base)}, {Num: plus(3), Den: plus(full)}, {Num: plus(), Den: plus(1, 0)}, // Den is not right
	}
}

// someInt is a right number of at most length digits.
func someInt(r *rand.Rand, length int) api.Int {
	a := api.Int{Neg: r.Intn(2) == 0}
	for range r.Intn(length + 1) {
		a.Digits = append(a.Digits, []uint32{0, 1, nine, 6, 30, r.Uint32() % api.Base, r.Uint32() % api.Base}[r.Intn(7)])
	}
	return num.Add(a)
}

// someRatio is a right ratio; its parts come from the library's own broken numbers.
func someRatio(r *rand.Rand, length int) api.Ratio {
	n, d := someInt(r, length), someInt(r, length)
	if len(d.Digits) == 0 {
		d = num.Of(1 + r.Int63n(60))
	}
	return laid(new(big.Rat).SetFrac(whole(n), whole(d)))
}

// ratios are right ones at which something may turn, and count others.
func ratios(count, length int) []api.Ratio {
	r := rand.New(rand.NewSource(3))
	l := rights()
	for range count {
		l = append(l, someRatio(r, length))
	}
	return l
}

// whole is what n stands for, reckoned from the words of the document alone.
func whole(n api.Int) *big.Int {
	sum := new(big.Int)
	for _, d := range slices.Backward(n.Digits) {
		sum.Mul(sum, big.NewInt(api.Base))
		sum.Add(sum, big.NewInt(int64(d)))
	}
	if n.Neg {
		sum.Neg(sum)
	}
	return sum
}

// value is what a right ratio is; that which is not right counts as 0.
func value(a api.Ratio) *big.Rat {
	if !isRight(a) {
		return new(big.Rat)
	}
	return new(big.Rat).SetFrac(whole(a.Num), whole(a.Den))
}

// laid is the right ratio of a broken number of the library.
func laid(x *big.Rat) api.Ratio {
	n, _ := num.Parse(x.Num().String())
	d, _ := num.Parse(x.Denom().String())
	return api.Ratio{Num: n, Den: d}
}

func same(a, b api.Int) bool { return a.Neg == b.Neg && slices.Equal(a.Digits, b.Digits) }

func equal(a, b api.Ratio) bool { return same(a.Num, b.Num) && same(a.Den, b.Den) }

func isRightInt(n api.Int) bool {
	if len(n.Digits) == 0 {
		return !n.Neg
	}
	return slices.Max(n.Digits) < api.Base && n.Digits[len(n.Digits)-1] != 0
}

// isRight is Right, in the words of the document.
func isRight(a api.Ratio) bool {
	if !isRightInt(a.Num) || !isRightInt(a.Den) || whole(a.Den).Sign() <= 0 {
		return false
	}
	common := new(big.Int).GCD(nil, nil, whole(a.Num), whole(a.Den))
	return common.Cmp(big.NewInt(1)) == 0
}

// holds fails, unless a is the right ratio of want.
func holds(t *testing.T, what string, a api.Ratio, want *big.Rat) {
	t.Helper()
	if !isRight(a) {
		t.Fatalf("%s: not right: %v", what, a)
	}
	if value(a).Cmp(want) != 0 {
		t.Fatalf("%s: %v is not %v", what, a, want)
	}
}

// P3.1

func TestRightIsOfRightPartsInLowestTerms(t *testing.T) {
	for _, a := range append(rights(), api.Ratio{Num: api.Int{Digits: []uint32{}}, Den: plus(1)}) {
		if !ratio.Right(a) {
			t.Error("right, but not told so:", a)
		}
	}
	for _, a := range wrongs() {
		if ratio.Right(a) {
			t.Error("not right, but told so:", a)
		}
	}
	for n := int64(-30); n <= 30; n++ {
		for d := int64(-30); d <= 30; d++ {
			if ratio.Right(by(n, d)) != isRight(by(n, d)) {
				t.Error(n, d)
			}
		}
	}
	for _, a := range ratios(200, 6) {
		seven := num.Of(7)
		if !ratio.Right(a) || ratio.Right(api.Ratio{Num: num.Mul(a.Num, seven), Den: num.Mul(a.Den, seven)}) {
			t.Error(a)
		}
	}
}

func TestOfFew(t *testing.T) {
	for _, c := range []struct {
		n, d api.Int
		want api.Ratio
	}{
		{num.Of(6), num.Of(-4), by(-3, 2)}, {num.Of(-6), num.Of(-4), by(3, 2)}, {num.Of(-6), num.Of(4), by(-3, 2)}, {num.Of(6), num.Of(4), by(3, 2)},
		{plus(), num.Of(-5), by(0, 1)}, {plus(), num.Of(5), by(0, 1)}, {num.Of(1), num.Of(-1), by(-1, 1)}, {num.Of(-1), num.Of(-1), by(1, 1)}, {num.Of(7), num.Of(1), by(7, 1)},
		{plus(0, 6), plus(0, 4), by(3, 2)}, {plus(0, 0, 1), minus(0, 1), by(-api.Base, 1)}, {plus(0, 1), plus(0, 0, 1), by(1, api.Base)},
		{minus(nine, nine), plus(nine), by(-api.Base-1, 1)}, {api.Int{Digits: []uint32{}}, num.Of(3), by(0, 1)},
	} {
		if got, e := ratio.Of(c.n, c.d); e != api.OK || !equal(got, c.want) {
			t.Error(c.n, c.d, got, e)
		}
	}
}

func TestOfAny(t *testing.T) {
	for n := int64(-25); n <= 25; n++ {
		for d := int64(-25); d <= 25; d++ {
			if d == 0 {
				continue
			}
			got, e := ratio.Of(num.Of(n), num.Of(d))
			if holds(t, "of", got, big.NewRat(n, d)); e != api.OK {
				t.Fatal(n, d, e)
			}
		}
	}
	r := rand.New(rand.NewSource(4))
	for range 500 {
		n, d, c := someInt(r, 6), someInt(r, 6), someInt(r, 3)
		if len(d.Digits) == 0 || len(c.Digits) == 0 {
			continue
		}
		want := new(big.Rat).SetFrac(whole(n), whole(d))
		got, e := ratio.Of(num.Mul(n, c), num.Mul(d, c))
		if holds(t, "of", got, want); e != api.OK {
			t.Fatal(n, d, c, e)
		}
	}
}

func TestOfTellsErrArgThenErrZero(t *testing.T) {
	wrong := []api.Int{minus(), {Neg: true, Digits: []uint32{}}, plus(0), minus(0), plus(1, 0), plus(api.Base), minus(full), plus(3, full), plus(0, 0)}
	for _, w := range wrong {
		for _, n := range []api.Int{plus(), plus(1), minus(2), plus(5, 1)} {
			for i, p := range [][2]api.Int{{w, n}, {n, w}, {w, w}} {
				if got, e := ratio.Of(p[0], p[1]); e != api.ErrArg || !equal(got, by(0, 1)) {
					t.Error(i, p, got, e)
				}
			}
		}
	}
	for _, n := range []api.Int{plus(), plus(1), minus(1), minus(5, 1)} {
		for _, d := range []api.Int{plus(), {Digits: []uint32{}}} {
			if got, e := ratio.Of(n, d); e != api.ErrZero || !equal(got, by(0, 1)) {
				t.Error(n, got, e)
			}
		}
	}
}

func TestWholeIsBy1(t *testing.T) {
	for _, n := range []api.Int{plus(), {Digits: []uint32{}}, plus(1), minus(1), plus(7), minus(nine), plus(0, 1), minus(5, 1), plus(nine, nine, nine)} {
		if got := ratio.Whole(n); !equal(got, api.Ratio{Num: n, Den: plus(1)}) {
			t.Error(n, got)
		}
	}
	for _, n := range []api.Int{minus(), plus(0), minus(0), plus(7, 0), plus(api.Base), minus(full), plus(1, full)} {
		if got := ratio.Whole(n); !equal(got, by(0, 1)) {
			t.Error(n, got)
		}
	}
}

// P3.2

func TestCmpIsOfWhatRatiosAre(t *testing.T) {
	for _, c := range []struct {
		a, b api.Ratio
		want int
	}{
		{by(1, 2), by(2, 3), -1}, {by(2, 3), by(1, 2), 1}, {by(-1, 2), by(-2, 3), 1}, {by(-2, 3), by(-1, 2), -1}, {by(-1, 2), by(1, 3), -1}, {by(1, 3), by(-1, 2), 1},
		{by(3, 2), by(3, 2), 0}, {by(0, 1), by(0, 1), 0}, {by(1, api.Base), by(0, 1), 1}, {by(-1, api.Base), by(0, 1), -1}, {by(nine, api.Base), by(1, 1), -1},
		{by(1, api.Base), by(1, nine), -1}, {by(10, 3), by(3, 1), 1}, {by(7, 1), by(8, 1), -1},
	} {
		if got := ratio.Cmp(c.a, c.b); got != c.want {
			t.Error(c.a, c.b, got)
		}
	}
	all := ratios(40, 4)
	for _, a := range all {
		for _, b := range all {
			if got := ratio.Cmp(a, b); got != value(a).Cmp(value(b)) {
				t.Error(a, b, got)
			}
		}
	}
}

func TestSumsAndProductsOfFew(t *testing.T) {
	for i, c := range []struct{ got, want api.Ratio }{
		{ratio.Add(), by(0, 1)}, {ratio.Mul(), by(1, 1)}, {ratio.Add(by(3, 2)), by(3, 2)}, {ratio.Mul(by(-3, 2)), by(-3, 2)},
		{ratio.Add(by(1, 2), by(1, 2)), by(1, 1)}, {ratio.Add(by(1, 2), by(-1, 2)), by(0, 1)}, {ratio.Add(by(1, 2), by(1, 3)), by(5, 6)}, {ratio.Add(by(1, 6), by(1, 3)), by(1, 2)},
		{ratio.Add(by(1, 2), by(1, 3), by(1, 6)), by(1, 1)}, {ratio.Add(by(1, api.Base), by(nine, api.Base)), by(1, 1)}, {ratio.Add(by(-1, 2), by(1, 6)), by(-1, 3)},
		{ratio.Mul(by(2, 3), by(3, 2)), by(1, 1)}, {ratio.Mul(by(-2, 3), by(3, 4)), by(-1, 2)}, {ratio.Mul(by(-2, 3), by(-3, 4), by(2, 1)), by(1, 1)}, {ratio.Mul(by(0, 1), by(-5, 7)), by(0, 1)},
		{ratio.Neg(by(3, 2)), by(-3, 2)}, {ratio.Neg(by(-3, 2)), by(3, 2)}, {ratio.Neg(by(0, 1)), by(0, 1)},
		{ratio.Sub(by(1, 2), by(1, 3)), by(1, 6)}, {ratio.Sub(by(1, 3), by(1, 2)), by(-1, 6)}, {ratio.Sub(by(3, 2), by(3, 2)), by(0, 1)}, {ratio.Sub(by(0, 1), by(3, 2)), by(-3, 2)},
	} {
		if !equal(c.got, c.want) {
			t.Error(i, c.got, c.want)
		}
	}
}

func TestAllCallsOfTwo(t *testing.T) {
	all := ratios(40, 5)
	for _, a := range all {
		holds(t, "denial", ratio.Neg(a), new(big.Rat).Neg(value(a)))
		for _, b := range all {
			x, y := value(a), value(b)
			holds(t, "sum", ratio.Add(a, b), new(big.Rat).Add(x, y))
			holds(t, "product", ratio.Mul(a, b), new(big.Rat).Mul(x, y))
			holds(t, "difference", ratio.Sub(a, b), new(big.Rat).Sub(x, y))
			if y.Sign() == 0 {
				continue
			}
			quotient, e := ratio.Div(a, b)
			if holds(t, "quotient", quotient, new(big.Rat).Quo(x, y)); e != api.OK {
				t.Fatal(a, b, e)
			}
		}
	}
}

func TestSumsAndProductsOfMany(t *testing.T) {
	sum, product := new(big.Rat), big.NewRat(1, 1)
	var terms, factors []api.Ratio
	for _, a := range ratios(15, 3) {
		terms = append(terms, a)
		sum.Add(sum, value(a))
		holds(t, "sum", ratio.Add(terms...), sum)
		if value(a).Sign() != 0 {
			factors = append(factors, a)
			product.Mul(product, value(a))
			holds(t, "product", ratio.Mul(factors...), product)
		}
	}
}

func TestDivOfFew(t *testing.T) {
	for _, c := range []struct{ a, b, want api.Ratio }{
		{by(1, 1), by(2, 1), by(1, 2)}, {by(1, 1), by(-2, 1), by(-1, 2)}, {by(-1, 1), by(-2, 1), by(1, 2)}, {by(3, 2), by(3, 2), by(1, 1)}, {by(3, 2), by(-3, 4), by(-2, 1)},
		{by(0, 1), by(-3, 4), by(0, 1)}, {by(0, 1), by(3, 4), by(0, 1)}, {by(5, 6), by(1, 1), by(5, 6)}, {by(1, 1), by(-5, 6), by(-6, 5)}, {by(1, api.Base), by(1, api.Base), by(1, 1)},
	} {
		if got, e := ratio.Div(c.a, c.b); e != api.OK || !equal(got, c.want) {
			t.Error(c.a, c.b, got, e)
		}
	}
}

// What is not right is 0 as a divisor too.
func TestDivBy0IsErrZero(t *testing.T) {
	for _, a := range append(rights(), wrongs()...) {
		for _, b := range append(wrongs(), by(0, 1), api.Ratio{Num: api.Int{Digits: []uint32{}}, Den: plus(1)}) {
			if got, e := ratio.Div(a, b); e != api.ErrZero || !equal(got, by(0, 1)) {
				t.Error(a, b, got, e)
			}
		}
	}
}

func TestFloorIsTheGreatestWholeNumberAtMost(t *testing.T) {
	for _, c := range []struct {
		a    api.Ratio
		want api.Int
	}{
		{by(0, 1), plus()}, {by(1, 2), plus()}, {by(-1, 2), minus(1)}, {by(3, 2), plus(1)}, {by(-3, 2), minus(2)}, {by(7, 1), plus(7)}, {by(-7, 1), minus(7)},
		{by(1, api.Base), plus()}, {by(-1, api.Base), minus(1)}, {by(-nine, api.Base), minus(1)}, {by(api.Base*5+1, 5), plus(0, 1)}, {by(-api.Base*5+1, 5), minus(0, 1)},
		{by(-api.Base*5-1, 5), minus(1, 1)},
	} {
		if got := ratio.Floor(c.a); !same(got, c.want) {
			t.Error(c.a, got)
		}
	}
	for _, a := range ratios(300, 6) {
		got := ratio.Floor(a)
		want := new(big.Int).Div(whole(a.Num), whole(a.Den))
		if !isRightInt(got) || whole(got).Cmp(want) != 0 {
			t.Error(a, got, want)
		}
	}
}

func TestWhatIsNotRightIsTakenAs0(t *testing.T) {
	for _, w := range wrongs() {
		for i, got := range []api.Ratio{ratio.Neg(w), ratio.Add(w), ratio.Mul(w), ratio.Add(w, w), ratio.Mul(w, by(3, 2), w), ratio.Sub(w, w)} {
			if !equal(got, by(0, 1)) {
				t.Error(i, w, got)
			}
		}
		if text, down := ratio.Text(w), ratio.Floor(w); text != "0" || !same(down, plus()) || ratio.Cmp(w, by(0, 1)) != 0 || ratio.Cmp(w, w) != 0 {
			t.Error(w, text, down)
		}
		for _, a := range rights() {
			quotient, e := ratio.Div(w, a)
			if isZero := len(a.Num.Digits) == 0; isZero != (e == api.ErrZero) || !equal(quotient, by(0, 1)) {
				t.Error(w, a, quotient, e)
			}
			if !equal(ratio.Add(w, a), a) || !equal(ratio.Add(a, w), a) || !equal(ratio.Mul(a, w), by(0, 1)) || !equal(ratio.Sub(a, w), a) || !equal(ratio.Sub(w, a), ratio.Neg(a)) {
				t.Error(w, a)
			}
			if ratio.Cmp(w, a) != -value(a).Sign() || ratio.Cmp(a, w) != value(a).Sign() {
				t.Error(w, a)
			}
		}
	}
}

// P3.3

func TestTextIsOfNumAndDenUnlessThatIs1(t *testing.T) {
	for want, a := range map[string]api.Ratio{
		"0": by(0, 1), "1": by(1, 1), "-1": by(-1, 1), "-3/2": by(-3, 2), "3/2": by(3, 2), "1/10": by(1, 10), "-7/1000000000": by(-7, api.Base), "1000000000": by(api.Base, 1),
		"-1000000005/7": {Num: minus(5, 1), Den: plus(7)}, "1/1000000000000000000": {Num: plus(1), Den: plus(0, 0, 1)},
	} {
		if got := ratio.Text(a); got != want {
			t.Error(a, got, want)
		}
	}
	for _, a := range ratios(200, 6) {
		want := value(a).RatString()
		if got := ratio.Text(a); got != want {
			t.Error(a, got, want)
		}
	}
}

func TestParseTakesTextsOfRatios(t *testing.T) {
	for s, want := range map[string]api.Ratio{
		"0": by(0, 1), "1": by(1, 1), "-1": by(-1, 1), "-3/2": by(-3, 2), "3/2": by(3, 2), "1/10": by(1, 10), "10": by(10, 1), "10/3": by(10, 3),
		"-7/1000000000": by(-7, api.Base), "-1000000005/7": {Num: minus(5, 1), Den: plus(7)}, "1/1000000000000000000": {Num: plus(1), Den: plus(0, 0, 1)},
	} {
		if got, ok := ratio.Parse(s); !ok || !equal(got, want) {
			t.Errorf("%q %v %v", s, got, ok)
		}
	}
}

func TestParseTakesNoOtherTexts(t *testing.T) {
	long := strings.Repeat("1", 40)
	for _, s := range []string{
		"6/4", "2/2", "3/1", "-3/1", "0/1", "0/2", "-6/4", "1000000000/10", long + "/" + long, // not as Text tells it
		"3/-2", "-3/-2", "0/-1", "1/0", "0/0", "-1/0", "1/-0", "-0", "-0/1", "-0/3", "00", "01", "-01", "01/2", "1/02", "1/00", "+1", "+1/2", "1/+2", // no Den, or no number
		"", "/", "//", "1/", "/2", "-/2", "-", "0/", "/0", "/1", "1//2", "1/2/", "/1/2", "1/2/3", "1/1/1", "0/1/1", "6/4/1", // other parts
		" 1", "1 ", "1 /2", "1/ 2", " ", "1/2 ", "\n", "1/2\n", "a", "a/2", "1/a", "0x1/2", "1.5", "1e3", "1:2", "1÷2", "1\\2", "1⁄2", "½", "١/٢", "\x00", "1\x00/2", "\xff", "1/\xff2", "1_0/3",
	} {
		if a, ok := ratio.Parse(s); ok || !equal(a, by(0, 1)) {
			t.Errorf("%q %v %v", s, a, ok)
		}
	}
}

// Each text of at most 4 of these signs is taken just where it is the text of a ratio.
func TestParseOfAllShortTexts(t *testing.T) {
	told := map[string]bool{}
	for n := int64(-999); n <= 9999; n++ {
		told[ratio.Text(by(n, 1))] = true
	}
	for n := int64(-9); n <= 99; n++ {
		for d := int64(2); d <= 99; d++ {
			if isRight(by(n, d)) {
				told[ratio.Text(by(n, d))] = true
			}
		}
	}
	short := []string{""}
	for range 5 {
		for _, s := range short {
			if a, ok := ratio.Parse(s); ok != told[s] || ok && ratio.Text(a) != s {
				t.Fatalf("%q %v %v", s, a, ok)
			}
		}
		var longer []string
		for _, s := range short {
			for _, sign := range "-/0126" {
				longer = append(longer, s+string(sign))
			}
		}
		short = longer
	}
}

// P3.4

func TestRatiosAreAnOrderedField(t *testing.T) {
	all := ratios(60, 4)
	for i, a := range all {
		b, c := all[(5*i+1)%len(all)], all[(7*i+3)%len(all)]
		for what, p := range map[string][2]api.Ratio{
			"sums in any order":       {ratio.Add(a, b, c), ratio.Add(c, b, a)},
			"sums grouped":            {ratio.Add(ratio.Add(a, b), c), ratio.Add(a, ratio.Add(b, c))},
			"products in any order":   {ratio.Mul(a, b, c), ratio.Mul(c, a, b)},
			"products grouped":        {ratio.Mul(ratio.Mul(a, b), c), ratio.Mul(a, ratio.Mul(b, c))},
			"products of sums":        {ratio.Mul(a, ratio.Add(b, c)), ratio.Add(ratio.Mul(a, b), ratio.Mul(a, c))},
			"a and 0":                 {ratio.Add(a, ratio.Add()), a},
			"a times 1":               {ratio.Mul(a, ratio.Mul()), a},
			"a and its denial":        {ratio.Add(a, ratio.Neg(a)), by(0, 1)},
			"a less b":                {ratio.Sub(a, b), ratio.Add(a, ratio.Neg(b))},
			"a denial that is denied": {ratio.Neg(ratio.Neg(a)), a},
			"a sum less one of both":  {ratio.Sub(ratio.Add(a, b), b), a},
		} {
			if !equal(p[0], p[1]) {
				t.Fatal(what, a, b, c, p)
			}
		}
		if quotient, e := ratio.Div(a, b); e == api.OK && !equal(ratio.Mul(quotient, b), a) {
			t.Fatal("a quotient times b", a, b)
		} else if (e == api.OK) == equal(b, by(0, 1)) {
			t.Fatal("only 0 has no quotient", a, b, e)
		}
		if order := ratio.Cmp(a, b); ratio.Cmp(b, a) != -order || ratio.Cmp(ratio.Add(a, c), ratio.Add(b, c)) != order || ratio.Cmp(ratio.Sub(a, b), by(0, 1)) != order {
			t.Fatal("sums in order", a, b, c)
		} else if ratio.Cmp(ratio.Mul(a, c), ratio.Mul(b, c)) != order*ratio.Cmp(c, by(0, 1)) {
			t.Fatal("products in order", a, b, c)
		}
	}
}

func TestWhatIsAboveFloorIsBelow1(t *testing.T) {
	for _, a := range append(ratios(200, 6), wrongs()...) {
		above := ratio.Sub(a, ratio.Whole(ratio.Floor(a)))
		if ratio.Cmp(above, by(0, 1)) < 0 || ratio.Cmp(above, by(1, 1)) >= 0 {
			t.Error(a, above)
		}
	}
}

func TestParseTakesBackWhatTextTells(t *testing.T) {
	for _, a := range append(ratios(300, 8), wrongs()...) {
		back, ok := ratio.Parse(ratio.Text(a))
		if !ok || !equal(back, ratio.Add(a)) {
			t.Error(a, back, ok)
		}
	}
}

// R1 to R8, as they hold here

// answers are the ratios that all calls answer to a and b, also beside errors.
func answers(a, b api.Ratio) []api.Ratio {
	quotient, _ := ratio.Div(a, b)
	turned, _ := ratio.Div(b, a)
	back, _ := ratio.Parse(ratio.Text(a))
	reckoned, _ := ratio.Of(a.Num, b.Num)
	parts, _ := ratio.Of(a.Num, a.Den)
	other, _ := ratio.Parse("?")
	down := api.Ratio{Num: ratio.Floor(a), Den: ratio.Floor(b)}
	return []api.Ratio{
		ratio.Add(), ratio.Mul(), ratio.Add(a), ratio.Add(a, b), ratio.Add(a, a), ratio.Mul(a), ratio.Mul(a, b), ratio.Neg(a), ratio.Sub(a, b), ratio.Sub(b, a),
		quotient, turned, back, reckoned, parts, other, down, ratio.Whole(a.Num), ratio.Whole(a.Den), ratio.Whole(b.Num),
	}
}

// lists are the rows of digits of all that is answered.
func lists(l []api.Ratio) [][]uint32 {
	var rows [][]uint32
	for _, a := range l {
		rows = append(rows, a.Num.Digits, a.Den.Digits)
	}
	return rows
}

// roomy is n, with room behind its digits: a call that appends to them would be found out. With it comes all its memory.
func roomy(n api.Int) (api.Int, []uint32) {
	row := append(slices.Clone(n.Digits), 11, 12, 13)
	return api.Int{Neg: n.Neg, Digits: row[:len(n.Digits)]}, row
}

// spoil overwrites digits, and what stands behind them in their memory.
func spoil(digits []uint32) {
	row := digits[:cap(digits)]
	for i := range row {
		row[i] = 77
	}
}

func TestNoArgumentIsChangedAndAnswersAreNewMemory(t *testing.T) {
	all := append(ratios(10, 4), wrongs()...)
	for _, a := range all {
		for _, b := range all {
			var own [2]api.Ratio
			var rows [4][]uint32
			own[0].Num, rows[0] = roomy(a.Num)
			own[0].Den, rows[1] = roomy(a.Den)
			own[1].Num, rows[2] = roomy(b.Num)
			own[1].Den, rows[3] = roomy(b.Den)
			want := [4][]uint32{slices.Clone(rows[0]), slices.Clone(rows[1]), slices.Clone(rows[2]), slices.Clone(rows[3])}
			first, second := lists(answers(own[0], own[1])), lists(answers(a, b))
			ratio.Right(own[0])
			ratio.Cmp(own[0], own[1])
			for i := range first {
				if !slices.Equal(first[i], second[i]) {
					t.Fatal("answered otherwise, or two lists share memory", i, a, b)
				}
				spoil(first[i])
			}
			for i := range rows {
				if !slices.Equal(rows[i], want[i]) {
					t.Fatal("an argument is changed, or an answer shares its memory", i, a, b)
				}
			}
		}
	}
}

func TestListsOfArgumentsAreKeptAsTheyWere(t *testing.T) {
	for i, call := range []func(...api.Ratio) api.Ratio{ratio.Add, ratio.Mul} {
		list, want := append(wrongs(), rights()...), append(wrongs(), rights()...)
		for j := range list {
			for _, got := range []api.Ratio{call(list[j]), call(list[j:]...)} {
				spoil(got.Num.Digits)
				spoil(got.Den.Digits)
			}
		}
		if !slices.EqualFunc(list, want, equal) {
			t.Error(i, list)
		}
		if !equal(call(list...), call(want...)) || !equal(call([]api.Ratio{}...), call()) {
			t.Error("answered otherwise", i)
		}
	}
}

func TestEmptyAndNilDigitsAreOne(t *testing.T) {
	empty := api.Int{Digits: []uint32{}}
	if _, e := ratio.Of(plus(1), empty); e != api.ErrZero {
		t.Error(e)
	}
	for _, b := range append(rights(), wrongs()...) {
		for _, p := range [][2][]api.Ratio{
			{answers(api.Ratio{Num: empty, Den: plus(1)}, b), answers(by(0, 1), b)}, {answers(b, api.Ratio{Num: empty, Den: plus(1)}), answers(b, by(0, 1))},
			{answers(api.Ratio{Num: empty, Den: empty}, b), answers(api.Ratio{}, b)}, {answers(b, api.Ratio{Num: empty, Den: empty}), answers(b, api.Ratio{})},
		} {
			if !slices.EqualFunc(p[0], p[1], equal) {
				t.Error(b, p)
			}
		}
	}
}

func TestLongRatios(t *testing.T) {
	r := rand.New(rand.NewSource(9))
	for range 5 {
		a, b := someRatio(r, 150), someRatio(r, 90)
		x, y := value(a), value(b)
		holds(t, "sum", ratio.Add(a, b), new(big.Rat).Add(x, y))
		holds(t, "product", ratio.Mul(a, b), new(big.Rat).Mul(x, y))
		if got, e := ratio.Div(a, b); e == api.OK {
			holds(t, "quotient", got, new(big.Rat).Quo(x, y))
		}
		if back, ok := ratio.Parse(ratio.Text(a)); !ok || !equal(back, a) {
			t.Error("text", ratio.Text(a))
		}
	}
}
