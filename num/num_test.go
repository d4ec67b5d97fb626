package num_test

import (
	"math"
	"math/big"
	"math/rand"
	"slices"
	"strings"
	"testing"

	"whetstone/api"
	"whetstone/num"
)

const (
	nine = api.Base - 1 // the greatest digit that is right
	full = 1<<32 - 1    // the greatest digit that there is
)

func plus(digits ...uint32) api.Int  { return api.Int{Digits: digits} }
func minus(digits ...uint32) api.Int { return api.Int{Neg: true, Digits: digits} }

// rights are right numbers at which something may turn.
func rights() []api.Int {
	return []api.Int{
		plus(), plus(1), minus(1), plus(2), minus(2), plus(7), minus(7), plus(12), minus(18), plus(nine), minus(nine), plus(0, 1), minus(0, 1),
		plus(5, 1), minus(5, 1), plus(nine, nine), minus(nine, nine), plus(0, 0, 1), minus(0, 0, 1), plus(nine, nine, nine), minus(1, nine, 1),
		plus(854775807, 223372036, 9), minus(854775808, 223372036, 9), plus(709551616, 446744073, 18), minus(709551616, 446744073, 18),
	}
}

// wrongs are numbers that are not right: a Neg without digits, noughts behind, digits of 10^9 and above.
func wrongs() []api.Int {
	return []api.Int{
		minus(), {Neg: true, Digits: []uint32{}}, plus(0), minus(0), plus(0, 0, 0), minus(0, 0, 0), plus(1, 0), minus(1, 0), plus(0, 1, 0), minus(7, 0, 0),
		plus(api.Base), minus(api.Base), plus(full), minus(full), plus(1, api.Base), minus(api.Base, 1), plus(full, full), minus(full, full),
		minus(full, 0, full, 0), plus(api.Base, nine, nine), minus(api.Base, nine, nine), plus(nine, api.Base, 0), minus(0, full),
	}
}

// some is a number of at most length digits, right or not.
func some(r *rand.Rand, length int) api.Int {
	a := api.Int{Neg: r.Intn(2) == 0}
	for range r.Intn(length + 1) {
		a.Digits = append(a.Digits, []uint32{0, 1, nine, api.Base, full, r.Uint32(), r.Uint32() % api.Base, r.Uint32() % api.Base}[r.Intn(8)])
	}
	return a
}

// numbers are those at which something may turn, and count others.
func numbers(count, length int) []api.Int {
	r := rand.New(rand.NewSource(5))
	l := append(rights(), wrongs()...)
	for range count {
		l = append(l, some(r, length))
	}
	return l
}

// value is what a stands for, reckoned from the words of the document alone.
func value(a api.Int) *big.Int {
	sum := new(big.Int)
	for _, d := range slices.Backward(a.Digits) {
		sum.Mul(sum, big.NewInt(api.Base))
		sum.Add(sum, big.NewInt(int64(d)))
	}
	if a.Neg {
		sum.Neg(sum)
	}
	return sum
}

func equal(a, b api.Int) bool {
	return a.Neg == b.Neg && slices.Equal(a.Digits, b.Digits)
}

// isRight is Right, in the words of the document.
func isRight(a api.Int) bool {
	if len(a.Digits) == 0 {
		return !a.Neg
	}
	return slices.Max(a.Digits) < api.Base && a.Digits[len(a.Digits)-1] != 0
}

// holds fails, unless a is the right number of want.
func holds(t *testing.T, what string, a api.Int, want *big.Int) {
	t.Helper()
	if !isRight(a) {
		t.Fatalf("%s: not right: %v", what, a)
	}
	if value(a).Cmp(want) != 0 {
		t.Fatalf("%s: %v is not %v", what, a, want)
	}
}

// P2.1

func TestRightIsOfRightDigitsAndNoNegWithoutAny(t *testing.T) {
	for _, a := range append(rights(), api.Int{Digits: []uint32{}}) {
		if !num.Right(a) {
			t.Error("right, but not told so:", a)
		}
	}
	for _, a := range wrongs() {
		if num.Right(a) {
			t.Error("not right, but told so:", a)
		}
	}
	for _, a := range numbers(500, 4) {
		if num.Right(a) != isRight(a) {
			t.Error(a)
		}
	}
}

func TestOfIsTheNumber(t *testing.T) {
	for n, want := range map[int64]api.Int{
		0: plus(), 1: plus(1), -1: minus(1), nine: plus(nine), -nine: minus(nine), api.Base: plus(0, 1), -api.Base: minus(0, 1),
		api.Base * api.Base: plus(0, 0, 1), 1 - api.Base*api.Base: minus(nine, nine), 1000000005: plus(5, 1),
		math.MaxInt64: plus(854775807, 223372036, 9), math.MinInt64: minus(854775808, 223372036, 9), math.MinInt64 + 1: minus(854775807, 223372036, 9),
	} {
		if got := num.Of(n); !equal(got, want) {
			t.Error(n, got)
		}
	}
	r := rand.New(rand.NewSource(6))
	for range 2000 {
		n := int64(r.Uint64()) >> r.Intn(64)
		holds(t, "of", num.Of(n), big.NewInt(n))
	}
}

func TestCmpIsOfWhatNumbersStandFor(t *testing.T) {
	for _, c := range []struct {
		a, b api.Int
		want int
	}{
		{plus(), minus(), 0}, {minus(0), plus(0, 0), 0}, {minus(1), plus(), -1}, {plus(), minus(1), 1}, {minus(1), minus(), -1}, {plus(1), plus(), 1},
		{minus(2), minus(1), -1}, {plus(2), plus(1), 1}, {minus(9, 1), plus(8), -1}, {plus(8), minus(9, 1), 1}, {minus(9, 1), minus(8, 2), 1},
		{minus(api.Base), minus(0, 1), 0}, {plus(full), plus(294967295, 4), 0}, {minus(1, 0), minus(1), 0}, {minus(1, 0, 0), minus(2), 1},
	} {
		if got := num.Cmp(c.a, c.b); got != c.want {
			t.Error(c.a, c.b, got)
		}
	}
	all := numbers(40, 4)
	for _, a := range all {
		for _, b := range all {
			if got := num.Cmp(a, b); got != value(a).Cmp(value(b)) {
				t.Error(a, b, got)
			}
		}
	}
}

// P2.2

func TestSumsAndProductsOfFew(t *testing.T) {
	for i, c := range []struct{ got, want api.Int }{
		{num.Add(), plus()}, {num.Mul(), plus(1)},
		{num.Add(minus()), plus()}, {num.Mul(minus()), plus()}, {num.Add(minus(0)), plus()}, {num.Mul(minus(0, 0)), plus()},
		{num.Add(minus(full)), minus(294967295, 4)}, {num.Mul(minus(full)), minus(294967295, 4)},
		{num.Add(plus(1), minus(1)), plus()}, {num.Add(minus(0, 1), plus(0, 1)), plus()}, {num.Add(plus(1), minus(2)), minus(1)},
		{num.Add(minus(1), plus(2)), plus(1)}, {num.Add(minus(nine), minus(1)), minus(0, 1)}, {num.Add(plus(0, 1), minus(1)), plus(nine)},
		{num.Add(plus(1), minus(0, 1)), minus(nine)}, {num.Add(plus(1), minus(2), plus(3), minus(4)), minus(2)},
		{num.Mul(minus(1), minus(1)), plus(1)}, {num.Mul(minus(2), plus(3)), minus(6)}, {num.Mul(minus(2), minus(3), minus(7)), minus(42)},
		{num.Mul(minus(5), plus()), plus()}, {num.Mul(minus(), minus(7)), plus()}, {num.Mul(minus(5), plus(0), plus(7)), plus()},
		{num.Mul(minus(nine), plus(nine)), minus(1, nine-1)}, {num.Mul(minus(api.Base), minus(0, 1, 0)), plus(0, 0, 1)},
	} {
		if !equal(c.got, c.want) {
			t.Error(i, c.got, c.want)
		}
	}
}

func TestSumsAndProductsOfTwo(t *testing.T) {
	all := numbers(60, 6)
	for _, a := range all {
		for _, b := range all {
			holds(t, "sum", num.Add(a, b), new(big.Int).Add(value(a), value(b)))
			holds(t, "product", num.Mul(a, b), new(big.Int).Mul(value(a), value(b)))
			holds(t, "difference", num.Sub(a, b), new(big.Int).Sub(value(a), value(b)))
		}
	}
}

func TestSumsAndProductsOfMany(t *testing.T) {
	sum, product := big.NewInt(0), big.NewInt(1)
	var terms, factors []api.Int
	for _, a := range numbers(40, 9) {
		terms = append(terms, a)
		sum.Add(sum, value(a))
		holds(t, "sum", num.Add(terms...), sum)
		if value(a).Sign() != 0 {
			factors = append(factors, a)
			product.Mul(product, value(a))
			holds(t, "product", num.Mul(factors...), product)
		}
	}
}

func TestNegAndSub(t *testing.T) {
	for _, c := range []struct{ got, want api.Int }{
		{num.Neg(plus()), plus()}, {num.Neg(minus()), plus()}, {num.Neg(plus(0)), plus()}, {num.Neg(minus(0, 0)), plus()}, {num.Neg(plus(7)), minus(7)},
		{num.Neg(minus(7, 0)), plus(7)}, {num.Neg(plus(full)), minus(294967295, 4)}, {num.Neg(num.Of(math.MinInt64)), plus(854775808, 223372036, 9)},
		{num.Sub(plus(), plus(7)), minus(7)}, {num.Sub(plus(), minus(7)), plus(7)}, {num.Sub(minus(), minus()), plus()}, {num.Sub(plus(2), plus(5)), minus(3)},
		{num.Sub(minus(2), minus(5)), plus(3)}, {num.Sub(minus(2), plus(5)), minus(7)}, {num.Sub(plus(0, 1), plus(1)), plus(nine)},
		{num.Sub(minus(api.Base), minus(0, 1)), plus()},
	} {
		if !equal(c.got, c.want) {
			t.Error(c.got, c.want)
		}
	}
	for _, a := range numbers(300, 6) {
		holds(t, "denial", num.Neg(a), new(big.Int).Neg(value(a)))
		if d := num.Sub(a, a); !equal(d, plus()) {
			t.Error("a less itself:", a, d)
		}
	}
}

// P2.3

func TestDivModIsRoundedDown(t *testing.T) {
	for _, c := range []struct{ a, b, q, r api.Int }{
		{plus(7), plus(2), plus(3), plus(1)}, {minus(7), plus(2), minus(4), plus(1)}, {plus(7), minus(2), minus(4), minus(1)}, {minus(7), minus(2), plus(3), minus(1)},
		{plus(6), plus(2), plus(3), plus()}, {minus(6), plus(2), minus(3), plus()}, {plus(6), minus(2), minus(3), plus()}, {minus(6), minus(2), plus(3), plus()},
		{plus(1), plus(2), plus(), plus(1)}, {minus(1), plus(2), minus(1), plus(1)}, {plus(1), minus(2), minus(1), minus(1)}, {minus(1), minus(2), plus(), minus(1)},
		{plus(), plus(5), plus(), plus()}, {plus(), minus(5), plus(), plus()}, {minus(), plus(5), plus(), plus()}, {minus(0), minus(5), plus(), plus()},
		{minus(5), plus(1), minus(5), plus()}, {minus(5), minus(1), plus(5), plus()}, {minus(1), plus(0, 1), minus(1), plus(nine)},
		{plus(0, 1), minus(7), minus(142857143), minus(1)}, {minus(0, 1), minus(7), plus(142857142), minus(6)},
		{minus(nine, nine, 0), plus(0, 0, 1), minus(1), plus(1)}, {minus(1, nine, nine), plus(0, 1), minus(0, 0, 1), plus(nine)},
		{minus(full), plus(api.Base), minus(5), plus(705032705)}, {plus(1, 2), minus(1, 2, 0), minus(1), plus()},
		{num.Of(math.MinInt64), minus(1), plus(854775808, 223372036, 9), plus()},
	} {
		q, r, e := num.DivMod(c.a, c.b)
		if e != api.OK || !equal(q, c.q) || !equal(r, c.r) {
			t.Error(c.a, c.b, q, r, e)
		}
	}
}

func TestDivModBy0IsErrZero(t *testing.T) {
	for _, a := range numbers(50, 4) {
		for _, b := range []api.Int{plus(), minus(), {Neg: true, Digits: []uint32{}}, plus(0), minus(0), minus(0, 0, 0)} {
			if q, r, e := num.DivMod(a, b); e != api.ErrZero || !equal(q, plus()) || !equal(r, plus()) {
				t.Error(a, b, q, r, e)
			}
		}
	}
}

func TestDivModOfAny(t *testing.T) {
	all := append(numbers(80, 4), numbers(40, 9)...)
	for _, a := range all {
		for _, b := range all {
			divisor := value(b)
			if divisor.Sign() == 0 {
				continue
			}
			q, r, e := num.DivMod(a, b)
			if e != api.OK {
				t.Fatal(a, b, e)
			}
			holds(t, "quotient", q, floor(value(a), divisor))
			rest := value(r)
			holds(t, "rest", r, rest)
			if rest.Sign() != 0 && rest.Sign() != divisor.Sign() || rest.CmpAbs(divisor) >= 0 {
				t.Fatal("rest", a, b, r)
			}
			if whole := rest.Add(rest, new(big.Int).Mul(value(q), divisor)); whole.Cmp(value(a)) != 0 {
				t.Fatal("whole", a, b, q, r)
			}
		}
	}
}

// floor is a divided by b, rounded down: big's own Div rounds so where b is above 0.
func floor(a, b *big.Int) *big.Int {
	if b.Sign() < 0 {
		a, b = new(big.Int).Neg(a), new(big.Int).Neg(b)
	}
	return new(big.Int).Div(a, b)
}

func TestGcdOfFew(t *testing.T) {
	for i, c := range []struct{ got, want api.Int }{
		{num.Gcd(), plus()}, {num.Gcd(plus()), plus()}, {num.Gcd(minus()), plus()}, {num.Gcd(plus(), minus(0), minus(0, 0), plus()), plus()},
		{num.Gcd(minus(4), plus(6), plus()), plus(2)}, {num.Gcd(minus(4)), plus(4)}, {num.Gcd(plus(), minus(4)), plus(4)}, {num.Gcd(minus(4), plus()), plus(4)},
		{num.Gcd(plus(12), plus(18)), plus(6)}, {num.Gcd(minus(12), minus(18)), plus(6)}, {num.Gcd(plus(6), plus(10), plus(15)), plus(1)},
		{num.Gcd(plus(7), minus(1)), plus(1)}, {num.Gcd(minus(full)), plus(294967295, 4)}, {num.Gcd(minus(api.Base), plus(0, 0, 1)), plus(0, 1)},
		{num.Gcd(minus(0, 6), plus(0, 4)), plus(0, 2)}, {num.Gcd(minus(5, 1), minus(5, 1, 0)), plus(5, 1)}, {num.Gcd(plus(), minus(9, 0), plus(6), minus(0)), plus(3)},
	} {
		if !equal(c.got, c.want) {
			t.Error(i, c.got, c.want)
		}
	}
}

func TestGcdOfAny(t *testing.T) {
	all := numbers(60, 6)
	for i, a := range all {
		for j, b := range all {
			c := all[(7*i+3*j+1)%len(all)]
			want := new(big.Int).GCD(nil, nil, value(a), value(b))
			holds(t, "of two", num.Gcd(a, b), want)
			holds(t, "of three", num.Gcd(a, b, c), new(big.Int).GCD(nil, nil, want, value(c)))
			// A divisor that all have is one of the greatest, however large it is.
			holds(t, "of products", num.Gcd(num.Mul(a, c), num.Mul(b, c)), want.Mul(want, new(big.Int).Abs(value(c))))
		}
	}
}

// P2.4

func TestTextIsDecimal(t *testing.T) {
	for _, c := range []struct {
		a    api.Int
		want string
	}{
		{plus(), "0"}, {minus(), "0"}, {minus(0), "0"}, {plus(0, 0), "0"}, {num.Neg(plus()), "0"}, {num.Neg(minus()), "0"}, {plus(7), "7"}, {minus(7), "-7"},
		{minus(7, 0), "-7"}, {minus(0, 1), "-1000000000"}, {minus(5, 1), "-1000000005"}, {minus(full), "-4294967295"}, {minus(api.Base), "-1000000000"},
		{num.Of(math.MinInt64), "-9223372036854775808"}, {num.Of(math.MaxInt64), "9223372036854775807"},
	} {
		if got := num.Text(c.a); got != c.want {
			t.Error(c.a, got)
		}
	}
	for _, a := range numbers(300, 9) {
		if got := num.Text(a); got != value(a).String() {
			t.Error(a, got)
		}
	}
}

func TestParseTakesDecimalTexts(t *testing.T) {
	for s, want := range map[string]api.Int{
		"0": plus(), "7": plus(7), "-7": minus(7), "10": plus(10), "-10": minus(10), "999999999": plus(nine), "-999999999": minus(nine),
		"-1000000000": minus(0, 1), "-1000000005": minus(5, 1), "-1000000000000000000": minus(0, 0, 1), "-9223372036854775808": minus(854775808, 223372036, 9),
		"18446744073709551616": plus(709551616, 446744073, 18),
	} {
		if a, ok := num.Parse(s); !ok || !equal(a, want) {
			t.Error(s, a, ok)
		}
	}
}

func TestParseTakesNoOtherTexts(t *testing.T) {
	long := strings.Repeat("1", 30)
	for _, s := range []string{
		"", "-", "+", "-0", "+0", "+1", "00", "-00", "01", "-01", "007", "-0000000000", "--1", "--", "-+1", "+-1", "1-", "-1-", "1-1", " 1", "1 ", " -1", "- 1",
		"-1 ", "1a", "-a", "1.", "-1.0", "1e3", "0x1", "-0x1", "1_000", "1/2", "-\x00", "\x00-1", "-1\n", "-١", "１", "−1", "\xff", "-\xff", "-1\xff",
		long + "-", long + ":", "-0" + long, "0" + long, "--" + long, "+" + long, long + "-" + long, "-" + long + "/",
	} {
		if a, ok := num.Parse(s); ok || a.Neg || a.Digits != nil {
			t.Errorf("%q %v %v", s, a, ok)
		}
	}
}

// P2.5

func TestNumbersAreAnOrderedRing(t *testing.T) {
	all := numbers(80, 5)
	for i, a := range all {
		b, c := all[(5*i+1)%len(all)], all[(7*i+3)%len(all)]
		for what, p := range map[string][2]api.Int{
			"sums in any order":       {num.Add(a, b, c), num.Add(c, b, a)},
			"sums grouped":            {num.Add(num.Add(a, b), c), num.Add(a, num.Add(b, c))},
			"products in any order":   {num.Mul(a, b, c), num.Mul(c, a, b)},
			"products grouped":        {num.Mul(num.Mul(a, b), c), num.Mul(a, num.Mul(b, c))},
			"products of sums":        {num.Mul(a, num.Add(b, c)), num.Add(num.Mul(a, b), num.Mul(a, c))},
			"a and 0":                 {num.Add(a, num.Of(0)), num.Add(a)},
			"a times 1":               {num.Mul(a, num.Of(1)), num.Mul(a)},
			"a and its denial":        {num.Add(a, num.Neg(a)), num.Of(0)},
			"a less b":                {num.Sub(a, b), num.Add(a, num.Neg(b))},
			"a denial as a product":   {num.Neg(a), num.Mul(num.Of(-1), a)},
			"a sum less one of both":  {num.Sub(num.Add(a, b), b), num.Mul(a)},
			"a denial that is denied": {num.Neg(num.Neg(a)), num.Add(a)},
		} {
			if !equal(p[0], p[1]) {
				t.Fatal(what, a, b, c, p)
			}
		}
		if order := num.Cmp(a, b); num.Cmp(b, a) != -order || num.Cmp(num.Add(a, c), num.Add(b, c)) != order || num.Cmp(num.Sub(a, b), num.Of(0)) != order {
			t.Fatal("sums in order", a, b, c)
		} else if num.Cmp(num.Mul(a, c), num.Mul(b, c)) != order*num.Cmp(c, num.Of(0)) {
			t.Fatal("products in order", a, b, c)
		}
	}
}

// divides tells whether b can be divided by a.
func divides(a, b api.Int) bool {
	if num.Cmp(a, num.Of(0)) == 0 {
		return num.Cmp(b, num.Of(0)) == 0
	}
	_, r, _ := num.DivMod(b, a)
	return equal(r, plus())
}

func TestGcdDividesAllAndAllThatDivideAllDivideIt(t *testing.T) {
	for a := int64(-30); a <= 30; a++ {
		for b := int64(-30); b <= 30; b++ {
			g := num.Gcd(num.Of(a), num.Of(b))
			if g.Neg || !divides(g, num.Of(a)) || !divides(g, num.Of(b)) {
				t.Fatal(a, b, g)
			}
			for d := int64(-30); d <= 30; d++ {
				if divides(num.Of(d), num.Of(a)) && divides(num.Of(d), num.Of(b)) && !divides(num.Of(d), g) {
					t.Fatal(a, b, d, g)
				}
			}
		}
	}
	all := numbers(100, 7)
	for i := range all {
		l := all[i:min(i+i%5, len(all))]
		g := num.Gcd(l...)
		for _, a := range l {
			if !divides(g, a) {
				t.Fatal(l, g)
			}
		}
	}
}

func TestParseTakesBackWhatTextTells(t *testing.T) {
	for _, a := range numbers(500, 9) {
		if back, ok := num.Parse(num.Text(a)); !ok || !equal(back, num.Add(a)) || num.Cmp(back, a) != 0 {
			t.Error(a, back, ok)
		}
	}
}

// R1 to R8, as they hold here

// answers are the numbers that all calls answer to a and b.
func answers(a, b api.Int) []api.Int {
	q, r, _ := num.DivMod(a, b)
	back, _ := num.Parse(num.Text(a))
	return []api.Int{
		num.Add(a), num.Add(a, b), num.Add(a, a), num.Mul(a), num.Mul(a, b), num.Mul(), num.Neg(a), num.Sub(a, b), num.Sub(b, a), q, r,
		num.Gcd(a), num.Gcd(a, b), num.Gcd(b, a), back, num.Of(12345678901),
	}
}

// roomy is a, with room behind its digits: a call that appends to them would be found out. With it comes all its memory.
func roomy(a api.Int) (api.Int, []uint32) {
	row := append(slices.Clone(a.Digits), 11, 12, 13)
	return api.Int{Neg: a.Neg, Digits: row[:len(a.Digits)]}, row
}

// spoil overwrites a's digits, and what stands behind them in their memory.
func spoil(a api.Int) {
	row := a.Digits[:cap(a.Digits)]
	for i := range row {
		row[i] = 77
	}
}

func TestNoArgumentIsChangedAndAnswersAreNewMemory(t *testing.T) {
	all := numbers(30, 5)
	for _, a := range all {
		for _, b := range all {
			ownA, rowA := roomy(a)
			ownB, rowB := roomy(b)
			wantA, wantB := slices.Clone(rowA), slices.Clone(rowB)
			first, second := answers(ownA, ownB), answers(a, b)
			num.Right(ownA)
			num.Cmp(ownA, ownB)
			for i := range first {
				if !equal(first[i], second[i]) {
					t.Fatal("answered otherwise", i, a, b)
				}
				spoil(first[i])
				for j := i + 1; j < len(first); j++ {
					if !equal(first[j], second[j]) {
						t.Fatal("two answers share memory", i, j, a, b)
					}
				}
			}
			if !slices.Equal(rowA, wantA) || !slices.Equal(rowB, wantB) {
				t.Fatal("an argument is changed, or an answer shares its memory", a, b)
			}
		}
	}
}

func TestListsOfArgumentsAreKeptAsTheyWere(t *testing.T) {
	for i, call := range []func(...api.Int) api.Int{num.Add, num.Mul, num.Gcd} {
		list, want := append(wrongs(), rights()...), append(wrongs(), rights()...)
		spoil(call(list...))
		for _, a := range list {
			spoil(call(a))
		}
		for j := range list {
			spoil(call(list[j:]...))
		}
		if !slices.EqualFunc(list, want, equal) {
			t.Error(i, list)
		}
		if !equal(call(list...), call(want...)) || !equal(call([]api.Int{}...), call()) {
			t.Error("answered otherwise", i)
		}
	}
}

func TestEmptyAndNilDigitsAreOne(t *testing.T) {
	for _, none := range []api.Int{{Digits: []uint32{}}, {Neg: true, Digits: []uint32{}}} {
		if num.Right(none) == none.Neg || num.Cmp(none, plus()) != 0 || num.Text(none) != "0" {
			t.Error(none)
		}
		for _, b := range append(rights(), wrongs()...) {
			for _, p := range [][2][]api.Int{{answers(none, b), answers(plus(), b)}, {answers(b, none), answers(b, plus())}} {
				if !slices.EqualFunc(p[0], p[1], equal) {
					t.Error(none, b, p)
				}
			}
		}
	}
}

func TestWrongNumbersAreTakenAsWhatTheyStandFor(t *testing.T) {
	for _, a := range wrongs() {
		right := num.Add(a)
		for _, b := range rights() {
			for _, p := range [][2][]api.Int{{answers(a, b), answers(right, b)}, {answers(b, a), answers(b, right)}} {
				if !slices.EqualFunc(p[0], p[1], equal) {
					t.Error(a, b, p)
				}
			}
		}
	}
}

func TestLongNumbers(t *testing.T) {
	r := rand.New(rand.NewSource(7))
	for range 5 {
		a, b := some(r, 700), some(r, 300)
		x, y := value(a), value(b)
		holds(t, "sum", num.Add(a, b), new(big.Int).Add(x, y))
		holds(t, "product", num.Mul(a, b), new(big.Int).Mul(x, y))
		holds(t, "divisor", num.Gcd(a, b), new(big.Int).GCD(nil, nil, x, y))
		if q, _, e := num.DivMod(a, b); e == api.OK {
			holds(t, "quotient", q, floor(x, y))
		}
		if back, ok := num.Parse(num.Text(a)); !ok || !equal(back, num.Add(a)) {
			t.Error("text", num.Text(a))
		}
	}
}
