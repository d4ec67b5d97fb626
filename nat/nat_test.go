package nat_test

import (
	"math/big"
	"math/rand"
	"slices"
	"strings"
	"testing"

	"whetstone/api"
	"whetstone/nat"
)

type row = []uint32

const (
	nine = api.Base - 1 // the greatest digit that is right
	full = 1<<32 - 1    // the greatest digit that there is
)

// edges are rows at which something may turn: right ones and others.
func edges() []row {
	return []row{
		nil, {}, {0}, {0, 0, 0}, {1}, {2}, {7}, {nine}, {api.Base}, {api.Base + 1}, {full},
		{0, 1}, {1, 1}, {5, 1}, {nine, nine}, {nine, 0}, {1, 0}, {api.Base, 0}, {0, api.Base}, {full, full}, {full, 0, full, 0},
		{0, 0, 1}, {0, 0, 0, 1}, {nine, nine, nine}, {1, 0, api.Base / 2}, {0, 0, api.Base / 2, api.Base/2 - 1}, {3, 0, 0, 0},
		{nine, 0, nine, 0, nine}, {full, nine, full}, {api.Base / 2}, {0, api.Base / 2}, {nine, api.Base/2 - 1}, {nine, api.Base / 2},
	}
}

// some is a row of up to length digits, of which many stand at an edge.
func some(r *rand.Rand, length int) row {
	at := []uint32{0, 0, 1, 2, nine, nine, nine - 1, api.Base / 2, api.Base/2 - 1, api.Base, full}
	l := make(row, r.Intn(length+1))
	for i := range l {
		if l[i] = at[r.Intn(len(at))]; r.Intn(3) == 0 {
			l[i] = r.Uint32()
		}
	}
	return l
}

// rows are the edges and n others, the same ones each time.
func rows(n, length int) []row {
	r := rand.New(rand.NewSource(1))
	l := edges()
	for range n {
		l = append(l, some(r, length))
	}
	return l
}

// value is what a stands for, reckoned from the words of the document alone.
func value(a row) *big.Int {
	sum := new(big.Int)
	for _, d := range slices.Backward(a) {
		sum.Mul(sum, big.NewInt(api.Base))
		sum.Add(sum, big.NewInt(int64(d)))
	}
	return sum
}

// holds fails, unless a is the right row of want.
func holds(t *testing.T, what string, a row, want *big.Int) {
	t.Helper()
	for _, d := range a {
		if d >= api.Base {
			t.Fatalf("%s: digit too great: %v", what, a)
		}
	}
	if len(a) > 0 && a[len(a)-1] == 0 {
		t.Fatalf("%s: a nought behind: %v", what, a)
	}
	if value(a).Cmp(want) != 0 {
		t.Fatalf("%s: %v is not %v", what, a, want)
	}
}

// P1.1

func TestRightIsOfSmallDigitsWithoutNoughtsBehind(t *testing.T) {
	for _, a := range []row{nil, {}, {1}, {nine}, {0, 1}, {0, 0, 7}, {nine, nine}, {5, 0, 1}} {
		if !nat.Right(a) {
			t.Error("right, but not told so:", a)
		}
	}
	for _, a := range []row{{0}, {0, 0}, {1, 0}, {api.Base}, {full}, {api.Base, 1}, {1, api.Base}, {0, 1, 0}, {1, full, 1}} {
		if nat.Right(a) {
			t.Error("not right, but told so:", a)
		}
	}
}

func TestTrimIsTheRightRow(t *testing.T) {
	for _, c := range []struct{ a, want row }{
		{nil, nil}, {row{0}, nil}, {row{0, 0}, nil}, {row{7, 0}, row{7}}, {row{nine}, row{nine}}, {row{0, 1}, row{0, 1}},
		{row{api.Base}, row{0, 1}}, {row{full}, row{294967295, 4}}, {row{full, nine}, row{294967295, 3, 1}},
		{row{api.Base, nine, nine}, row{0, 0, 0, 1}}, {row{full, 0, 0}, row{294967295, 4}},
	} {
		if got := nat.Trim(c.a); !slices.Equal(got, c.want) {
			t.Error(c.a, got, c.want)
		}
	}
	for _, a := range rows(500, 8) {
		holds(t, "trim", nat.Trim(a), value(a))
		if nat.Right(a) != slices.Equal(nat.Trim(a), a) {
			t.Error("right ones alone are trimmed already:", a)
		}
	}
}

func TestCmpIsOfWhatRowsStandFor(t *testing.T) {
	for _, c := range []struct {
		a, b row
		want int
	}{
		{nil, nil, 0}, {row{0, 0}, nil, 0}, {row{1}, nil, 1}, {nil, row{1}, -1}, {row{9, 1}, row{8, 2}, -1}, {row{8, 2}, row{9, 1}, 1},
		{row{api.Base}, row{0, 1}, 0}, {row{full}, row{0, 1}, 1}, {row{1, 0, 0}, row{2}, -1}, {row{nine}, row{0, 1}, -1},
		{row{nine, nine}, row{nine, nine}, 0}, {row{5, 7}, row{6, 7}, -1},
	} {
		if got := nat.Cmp(c.a, c.b); got != c.want {
			t.Error(c.a, c.b, got)
		}
	}
	all := rows(40, 4)
	for _, a := range all {
		for _, b := range all {
			if got := nat.Cmp(a, b); got != value(a).Cmp(value(b)) {
				t.Error(a, b, got)
			}
		}
	}
}

// P1.2

func TestSumsAndProductsOfFew(t *testing.T) {
	for i, c := range []struct{ got, want row }{
		{nat.Add(), nil}, {nat.Mul(), row{1}},
		{nat.Add(nil), nil}, {nat.Mul(nil), nil}, {nat.Add(row{0}), nil}, {nat.Mul(row{0, 0}), nil},
		{nat.Add(row{full}), row{294967295, 4}}, {nat.Mul(row{full}), row{294967295, 4}},
		{nat.Add(row{nine}, row{1}), row{0, 1}}, {nat.Add(row{1}, row{nine, nine, nine}), row{0, 0, 0, 1}},
		{nat.Add(row{1}, row{2}, row{3}), row{6}}, {nat.Add(row{1}, nil, row{0, 0, 2}), row{1, 0, 2}},
		{nat.Mul(row{nine}, row{nine}), row{1, nine - 1}}, {nat.Mul(row{2}, row{3}, row{7}), row{42}},
		{nat.Mul(row{5}, nil, row{7}), nil}, {nat.Mul(row{0, 1}, row{0, 1}), row{0, 0, 1}},
		{nat.Mul(row{api.Base}, row{1}), row{0, 1}}, {nat.Mul(row{1}, row{4, 5}), row{4, 5}},
	} {
		if !slices.Equal(c.got, c.want) {
			t.Error(i, c.got, c.want)
		}
	}
}

func TestSumsAndProductsOfAny(t *testing.T) {
	all := rows(300, 9)
	for i, a := range all {
		for _, b := range []row{all[(i+1)%len(all)], all[(3*i+7)%len(all)], a} {
			holds(t, "sum", nat.Add(a, b), new(big.Int).Add(value(a), value(b)))
			holds(t, "product", nat.Mul(a, b), new(big.Int).Mul(value(a), value(b)))
		}
	}
	sum, product := big.NewInt(0), big.NewInt(1)
	var taken []row
	for _, a := range all {
		if taken = append(taken, a); len(taken) == 60 {
			break
		}
		sum.Add(sum, value(a))
		holds(t, "sums of many", nat.Add(taken...), sum)
	}
	taken = nil
	for _, a := range all {
		if value(a).Sign() > 0 && len(taken) < 40 {
			taken = append(taken, a)
			product.Mul(product, value(a))
			holds(t, "products of many", nat.Mul(taken...), product)
		}
	}
}

func TestSubIsNoneWhereBIsAbove(t *testing.T) {
	for _, c := range []struct {
		a, b, want row
		ok         bool
	}{
		{row{0, 1}, row{1}, row{nine}, true}, {row{0, 0, 0, 1}, row{1}, row{nine, nine, nine}, true}, {row{1}, row{2}, nil, false},
		{row{nine, 5}, row{0, 6}, nil, false}, {nil, row{1}, nil, false}, {nil, nil, nil, true}, {row{5, 6}, row{5, 6}, nil, true},
		{row{0, 6}, row{nine, 5}, row{1}, true}, {row{full}, row{294967295, 4}, nil, true}, {row{nine}, row{api.Base}, nil, false},
		{row{5, 0, 0}, row{5, 0}, nil, true}, {row{5}, row{6, 0}, nil, false},
	} {
		if got, ok := nat.Sub(c.a, c.b); ok != c.ok || !slices.Equal(got, c.want) {
			t.Error(c.a, c.b, got, ok)
		}
	}
	all := rows(60, 5)
	for _, a := range all {
		for _, b := range all {
			got, ok := nat.Sub(a, b)
			switch want := new(big.Int).Sub(value(a), value(b)); {
			case ok != (want.Sign() >= 0):
				t.Fatal(a, b, ok)
			case ok:
				holds(t, "difference", got, want)
			case got != nil:
				t.Fatal("none is asked:", a, b, got)
			}
		}
	}
}

// P1.3

func TestDivModOfFew(t *testing.T) {
	for _, c := range []struct {
		a, b, q, r row
		ok         bool
	}{
		{row{0, 1}, row{7}, row{142857142}, row{6}, true}, {row{6}, row{7}, nil, row{6}, true}, {row{7}, row{7}, row{1}, nil, true},
		{nil, row{7}, nil, nil, true}, {row{0, 0, 1}, row{0, 1}, row{0, 1}, nil, true}, {row{5, 4, 3}, row{1}, row{5, 4, 3}, nil, true},
		{row{5, 4, 3}, row{0, 1}, row{4, 3}, row{5}, true}, {row{full}, row{api.Base}, row{4}, row{294967295}, true},
		{row{1, 2}, row{1, 2, 0}, row{1}, nil, true}, {row{1, 2}, row{2, 2}, nil, row{1, 2}, true},
		// The highest digits alone make the quotient's digit 1 too great; the same, where that would be no digit any more.
		{row{0, 0, api.Base / 2, api.Base/2 - 1}, row{1, 0, api.Base / 2}, row{nine - 1}, row{2, nine, api.Base/2 - 1}, true},
		{row{nine, nine - 1, 0, 1}, row{nine, 0, 1}, row{nine}, row{nine - 1, 0, 1}, true},
		// 2 to the power of 64: the three highest digits of what is divided are just more than 64 bits.
		{row{709551616, 446744073, 18}, row{446744074, 18}, row{nine}, row{156295690, 18}, true},
		{row{0, 0, nine}, row{nine, nine}, row{nine}, row{nine}, true},
	} {
		q, r, ok := nat.DivMod(c.a, c.b)
		if ok != c.ok || value(q).Cmp(new(big.Int).Div(value(c.a), value(c.b))) != 0 || !slices.Equal(q, c.q) || !slices.Equal(r, c.r) {
			t.Error(c.a, c.b, q, r, ok)
		}
	}
}

func TestDivModBy0IsNone(t *testing.T) {
	for _, a := range edges() {
		for _, b := range []row{nil, {}, {0}, {0, 0, 0}} {
			if q, r, ok := nat.DivMod(a, b); ok || q != nil || r != nil {
				t.Error(a, b, q, r, ok)
			}
		}
	}
}

func TestDivModOfAny(t *testing.T) {
	all := append(rows(120, 4), rows(80, 9)...)
	for _, a := range all {
		for _, b := range all {
			divisor := value(b)
			if divisor.Sign() == 0 {
				continue
			}
			q, r, ok := nat.DivMod(a, b)
			if !ok {
				t.Fatal(a, b)
			}
			quotient, rest := new(big.Int).QuoRem(value(a), divisor, new(big.Int))
			holds(t, "quotient", q, quotient)
			holds(t, "rest", r, rest)
		}
	}
}

// P1.4

func TestTextIsDecimal(t *testing.T) {
	for _, c := range []struct {
		a    row
		want string
	}{
		{nil, "0"}, {row{0, 0}, "0"}, {row{5, 1}, "1000000005"}, {row{7}, "7"}, {row{nine}, "999999999"}, {row{0, 1}, "1000000000"},
		{row{0, 0, 12}, "12000000000000000000"}, {row{full}, "4294967295"}, {row{7, 0}, "7"}, {row{10, 20, 30}, "30000000020000000010"},
	} {
		if got := nat.Text(c.a); got != c.want {
			t.Error(c.a, got)
		}
	}
	for _, a := range rows(300, 9) {
		if got := nat.Text(a); got != value(a).String() {
			t.Error(a, got)
		}
	}
}

func TestOfTakesDecimalTexts(t *testing.T) {
	for s, want := range map[string]row{
		"0": nil, "7": {7}, "10": {10}, "999999999": {nine}, "1000000000": {0, 1}, "1000000005": {5, 1}, "4294967296": {294967296, 4},
		"1000000000000000000": {0, 0, 1}, "123456789012345678": {12345678, 123456789}, "18446744073709551616": {709551616, 446744073, 18},
	} {
		if a, ok := nat.Of(s); !ok || !slices.Equal(a, want) {
			t.Error(s, a, ok)
		}
	}
}

func TestOfTakesNoOtherTexts(t *testing.T) {
	long := strings.Repeat("1", 30)
	for _, s := range []string{
		"", "00", "01", "007", "0000000000", "-1", "+1", "-0", "1a", "a", " 1", "1 ", "1_000", "1.", "1e3", "0x1", "1/2", "\x00", "1\x00", "\n",
		"١", "１", "\xff", "1\xff", "/", ":", long + "/", long + ":", "-" + long, "0" + long, long[:9] + "-" + long[:9], long[:10] + " ",
	} {
		if a, ok := nat.Of(s); ok || a != nil {
			t.Errorf("%q %v %v", s, a, ok)
		}
	}
}

// P1.5

func TestOrderAndGroupingAreFree(t *testing.T) {
	all := rows(120, 5)
	for i, a := range all {
		b, c := all[(5*i+1)%len(all)], all[(7*i+3)%len(all)]
		for _, p := range [][]row{{a, c, b}, {b, a, c}, {c, b, a}, {nat.Add(a, b), c}, {a, nat.Add(b, c)}} {
			if !slices.Equal(nat.Add(p...), nat.Add(a, b, c)) {
				t.Fatal("sum", a, b, c)
			}
		}
		for _, p := range [][]row{{a, c, b}, {b, a, c}, {c, b, a}, {nat.Mul(a, b), c}, {a, nat.Mul(b, c)}} {
			if !slices.Equal(nat.Mul(p...), nat.Mul(a, b, c)) {
				t.Fatal("product", a, b, c)
			}
		}
		if !slices.Equal(nat.Mul(a, nat.Add(b, c)), nat.Add(nat.Mul(a, b), nat.Mul(a, c))) {
			t.Fatal("a product of a sum", a, b, c)
		}
		if d, ok := nat.Sub(nat.Add(a, b), b); !ok || nat.Cmp(d, a) != 0 {
			t.Fatal("a sum less one of both", a, b)
		}
	}
}

func TestQuotientTimesDivisorAndRestAreTheWhole(t *testing.T) {
	r := rand.New(rand.NewSource(2))
	for range 20000 {
		a, b := some(r, 8), some(r, 5)
		q, rest, ok := nat.DivMod(a, b)
		if ok != (nat.Cmp(b, nil) > 0) {
			t.Fatal(a, b, ok)
		}
		if ok && (nat.Cmp(rest, b) >= 0 || !slices.Equal(nat.Add(nat.Mul(q, b), rest), nat.Trim(a))) {
			t.Fatal(a, b, q, rest)
		}
	}
}

func TestOfTakesBackWhatTextTells(t *testing.T) {
	for _, a := range rows(500, 9) {
		if back, ok := nat.Of(nat.Text(a)); !ok || !slices.Equal(back, nat.Trim(a)) {
			t.Error(a, back, ok)
		}
	}
}

// R1 to R8, as they hold here

// answers are the rows that all calls answer to a and b.
func answers(a, b row) []row {
	difference, _ := nat.Sub(a, b)
	q, r, _ := nat.DivMod(a, b)
	read, _ := nat.Of(nat.Text(a))
	return []row{nat.Trim(a), nat.Add(a), nat.Mul(a), nat.Add(a, b), nat.Mul(a, b), nat.Add(a, a), nat.Mul(a, a), difference, q, r, read}
}

func TestNoArgumentIsChangedAndAnswersAreNewMemory(t *testing.T) {
	all := rows(60, 5)
	for _, a := range all {
		for _, b := range all {
			// Room behind the rows, so that a call that appends to one would be found out.
			ownA, ownB := append(slices.Clone(a), 11, 12, 13), append(slices.Clone(b), 21, 22, 23)
			wantA, wantB := slices.Clone(ownA), slices.Clone(ownB)
			first, second := answers(ownA[:len(a)], ownB[:len(b)]), answers(a, b)
			nat.Right(ownA[:len(a)])
			nat.Cmp(ownA[:len(a)], ownB[:len(b)])
			if !slices.Equal(ownA, wantA) || !slices.Equal(ownB, wantB) {
				t.Fatal("an argument is changed", a, b)
			}
			for i := range first {
				if !slices.Equal(first[i], second[i]) {
					t.Fatal("answered otherwise", i, a, b)
				}
				spoil(first[i])
				for j := i + 1; j < len(first); j++ {
					if !slices.Equal(first[j], second[j]) {
						t.Fatal("two answers share memory", i, j, a, b)
					}
				}
			}
			if !slices.Equal(ownA, wantA) || !slices.Equal(ownB, wantB) {
				t.Fatal("an answer shares memory with an argument", a, b)
			}
		}
	}
}

// spoil overwrites a row, and what stands behind it in its memory.
func spoil(a row) {
	a = a[:cap(a)]
	for i := range a {
		a[i] = 77
	}
}

func TestListsOfArgumentsAreKeptAsTheyWere(t *testing.T) {
	for _, call := range []func(...row) row{nat.Add, nat.Mul} {
		list := []row{{full, 3}, {0}, {1, 0}, nil}
		want := []row{{full, 3}, {0}, {1, 0}, nil}
		spoil(call(list...))
		for i := range list {
			if !slices.Equal(list[i], want[i]) {
				t.Error(i, list[i])
			}
		}
	}
}

func TestEmptyAndNilRowsAreOne(t *testing.T) {
	if !nat.Right(row{}) || nat.Cmp(row{}, nil) != 0 || nat.Text(row{}) != "0" {
		t.Error("an empty row is 0")
	}
	for _, b := range edges() {
		one, other := answers(row{}, b), answers(nil, b)
		for i := range one {
			if !slices.Equal(one[i], other[i]) {
				t.Error(i, b)
			}
		}
	}
}

func TestLongRows(t *testing.T) {
	r := rand.New(rand.NewSource(3))
	for range 5 {
		a, b := some(r, 900), some(r, 400)
		holds(t, "sum", nat.Add(a, b), new(big.Int).Add(value(a), value(b)))
		holds(t, "product", nat.Mul(a, b), new(big.Int).Mul(value(a), value(b)))
		if q, rest, ok := nat.DivMod(a, b); ok {
			quotient, left := new(big.Int).QuoRem(value(a), value(b), new(big.Int))
			holds(t, "quotient", q, quotient)
			holds(t, "rest", rest, left)
		}
		if s := nat.Text(a); s != value(a).String() {
			t.Error("text", s)
		}
	}
}
