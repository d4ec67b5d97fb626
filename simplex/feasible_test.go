package simplex_test

import (
	"math/big"
	"math/rand"
	"slices"
	"testing"

	"whetstone/api"
	"whetstone/num"
	"whetstone/proof"
	"whetstone/ratio"
	"whetstone/simplex"
	"whetstone/term"
)

// P11.1

func TestExamples(t *testing.T) {
	l := cannot(t, atMost("x", 1, 2), atLeast("x", 1, 3))
	if texts(l...) != "1 1" {
		t.Error(texts(l...))
	}
	x := ratOf(can(t, atMost("x", 1, 2), atLeast("x", 1, 1))[0])
	if x.Cmp(big.NewRat(1, 1)) < 0 || x.Cmp(big.NewRat(2, 1)) > 0 {
		t.Error(x)
	}
	if l = cannot(t, row(1)); ratOf(l[0]).Sign() <= 0 {
		t.Error(texts(l...))
	}
}

func TestNoRows(t *testing.T) {
	for _, rows := range [][]api.Linear{nil, {}} {
		keys, point, denial, ok := simplex.Feasible(rows...)
		if !ok || len(keys)+len(point)+len(denial) > 0 {
			t.Error(ok, keys, point, denial)
		}
	}
}

func TestRowsWithoutKeys(t *testing.T) {
	can(t, row(0))
	can(t, row(-1))
	can(t, row(0), row(-5), row(0))
	cannot(t, row(1))
	cannot(t, row(-1), row(0), row(1), row(-1))
	cannot(t, row(7), row(7))
	cannot(t, row(-1, 1), row(1))
	cannot(t, row(1), row(5, -1, 2), row(5, 1, 2))
	// What there is of keys is told of those too that can't be.
	if a := asked(t, row(1), row(0, 0, 1), row(0, 1)); !slices.Equal(a.keys, []string{"a", "b"}) {
		t.Error(a.keys)
	}
	can(t, row(-1), row(5, 1))
	can(t, api.Linear{Keys: []string{}, Coefs: []api.Int{}, Const: api.Int{Digits: []uint32{}}})
}

func TestOneRowOfKeysCan(t *testing.T) {
	for _, times := range [][]int64{{1}, {-1}, {7}, {-7}, {0, 3}, {1, 1, 1}, {-1, 1}, {5, 0, -3}} {
		for _, n := range []int64{0, 1, -1, 5, -5, 1 << 62, -1 << 62} {
			can(t, row(n, times...))
		}
	}
}

func TestBounds(t *testing.T) {
	for _, low := range []int64{-9, -8, -1, 0, 1, 2, 9} {
		for _, high := range []int64{-9, -7, -1, 0, 1, 3, 9} {
			rows := []api.Linear{atLeast("x", 1, low), atMost("x", 1, high)}
			turned := []api.Linear{rows[1], row(-4, 0, 1), rows[0]}
			if low > high {
				cannot(t, rows...)
				cannot(t, turned...)
				continue
			}
			can(t, rows...)
			can(t, turned...)
			// Of broken ones: 3 x at least 2 low, 2 x at most high, and so on.
			for _, c := range [][2]int64{{3, 2}, {7, 5}, {2, 9}} {
				rows = []api.Linear{atLeast("x", c[0], low), atMost("x", c[1], high)}
				if low*c[1] > high*c[0] {
					cannot(t, rows...)
				} else {
					can(t, rows...)
				}
			}
		}
	}
}

// Where one point alone holds, that one is told.
func TestPointsThatAreForced(t *testing.T) {
	for _, c := range []struct {
		rows []api.Linear
		want string
	}{
		{both(row(-1, 3)), "1/3"},
		{both(row(7, 2)), "-7/2"},
		{both(row(0, 5)), "0"},
		{slices.Concat(both(row(-1, 2, 3)), both(row(1, 1, -1))), "-2/5 3/5"},
		{slices.Concat(both(row(0, 1, -1)), both(row(0, 0, 1, -1)), both(row(-6, 1, 1, 1))), "2 2 2"},
		{[]api.Linear{row(0, -1), row(0, 0, -1), row(0, 1, 1)}, "0 0"},
		{[]api.Linear{row(1, -2), row(1, 0, -3), row(-5, 6, 6)}, "1/2 1/3"},
		{[]api.Linear{row(0, -1, 1), row(0, 0, -1, 1), row(0, 1, 0, -1), row(-3, 1), row(3, 0, 0, -1)}, "3 3 3"},
		// A row that holds anyway, and a key that comes in no other one.
		{slices.Concat([]api.Linear{row(-100, 1)}, both(row(-9, 4)), both(row(-1, 0, 0, 5))), "9/4 1/5"},
	} {
		if got := texts(can(t, c.rows...)...); got != c.want {
			t.Error(got, "is not", c.want, short(c.rows...))
		}
	}
}

// Where one denial alone is, but for how great it is, that one is told.
func TestDenialsThatAreForced(t *testing.T) {
	for _, c := range []struct {
		rows []api.Linear
		want []int64
	}{
		{[]api.Linear{row(-1, 2), row(2, -3)}, []int64{3, 2}},
		{[]api.Linear{row(3, -7), row(5), row(-1, 0, 1)}, []int64{0, 1, 0}},
		{[]api.Linear{row(1, 1, -1), row(1, 0, 1, -1), row(-1, -1, 0, 1)}, []int64{1, 1, 1}},
		{[]api.Linear{row(-4, 3, 2), row(2, -1), row(0, 0, -5)}, []int64{5, 15, 2}},
		{[]api.Linear{row(-9, 0, 1), row(1, 4, -6), row(-50, -1), row(1, -6, 9)}, []int64{0, 3, 0, 2}},
		{[]api.Linear{row(0, 1, 1, 1), row(1, -1), row(-1, 0, -1), row(1, 0, 0, -2)}, []int64{2, 2, 2, 1}},
	} {
		got := cannot(t, c.rows...)
		first := slices.IndexFunc(c.want, func(n int64) bool { return n > 0 })
		for i, n := range c.want {
			// got is to the first as it should be.
			have, want := new(big.Rat).Quo(ratOf(got[i]), ratOf(got[first])), big.NewRat(n, c.want[first])
			if have.Cmp(want) != 0 {
				t.Fatal(texts(got...), "is not", c.want)
			}
		}
	}
}

func TestKeysRiseByteByByte(t *testing.T) {
	rows := []api.Linear{
		{Keys: []string{"", "B", "b", "é", "\xff"}, Coefs: []api.Int{num.Of(1), num.Of(2), num.Of(-3), num.Of(4), num.Of(-5)}, Const: num.Of(6)},
		{Keys: []string{"B", "a\x00", "b", "ba", "ÿ"}, Coefs: []api.Int{num.Of(-1), num.Of(-2), num.Of(3), num.Of(4), num.Of(5)}, Const: num.Of(6)},
		on("\x00", 1, -1),
		on("zz", 1, -1),
	}
	want := []string{"", "\x00", "B", "a\x00", "b", "ba", "zz", "é", "ÿ", "\xff"}
	for range 2 {
		if a := asked(t, rows...); !slices.Equal(a.keys, want) || len(a.point) != len(want) {
			t.Error(a.keys)
		}
		slices.Reverse(rows)
	}
	// Those of rows of which the answer asks nothing are told too.
	if a := asked(t, row(-1, 0, 0, 1), atMost("x", 1, 2), atLeast("x", 1, 3), row(-5, 1)); !slices.Equal(a.keys, []string{"a", "c", "x"}) || len(a.denial) != 4 {
		t.Error(a.keys)
	}
}

func TestGreatNumbers(t *testing.T) {
	great, one := digits(400), num.Of(1)
	least := api.Linear{Keys: []string{"x"}, Coefs: []api.Int{num.Neg(great)}, Const: one}
	most := api.Linear{Keys: []string{"x"}, Coefs: []api.Int{great}, Const: num.Neg(one)}
	if x := can(t, least, most); num.Cmp(x[0].Den, great) != 0 || num.Cmp(x[0].Num, one) != 0 {
		t.Error(texts(x...))
	}
	most.Coefs = []api.Int{num.Add(great, one)}
	cannot(t, most, least)
	least.Coefs = []api.Int{num.Neg(num.Add(great, one, one))}
	can(t, most, least)
	at := num.Mul(great, great)
	can(t, api.Linear{Keys: []string{"x"}, Coefs: []api.Int{one}, Const: at}, api.Linear{Keys: []string{"x"}, Coefs: []api.Int{num.Of(-1)}, Const: num.Neg(at)})
	cannot(t, api.Linear{Keys: []string{"x"}, Coefs: []api.Int{one}, Const: at}, api.Linear{Keys: []string{"x"}, Coefs: []api.Int{num.Of(-1)}, Const: num.Sub(one, at)})
}

func TestRandomRows(t *testing.T) {
	t.Parallel()
	r := rand.New(rand.NewSource(1))
	points, denials := 0, 0
	for range 30000 {
		if a := asked(t, small(r).made(r)...); len(a.denial) > 0 {
			denials++
		} else {
			points++
		}
	}
	if points < 5000 || denials < 5000 {
		t.Error(points, denials)
	}
}

func TestGreaterRandomRows(t *testing.T) {
	t.Parallel()
	r := rand.New(rand.NewSource(2))
	for _, s := range []shape{{30, 15, 30, 5, 5}, {30, 15, 100, 5, 5}, {60, 20, 20, 1, 1}, {40, 20, 100, 1000000, 1000000}, {80, 26, 10, 9, 30}, {26, 26, 100, 3, 9}} {
		for range 8 {
			rows := s.made(r)
			asked(t, rows...)
			for i := range rows {
				rows[i].Const = num.Sub(rows[i].Const, num.Of(int64(s.number)))
			}
			asked(t, rows...)
		}
	}
}

// Rows that were made to hold at a point, which touches some of them.
func TestRowsOfAPointCan(t *testing.T) {
	t.Parallel()
	r := rand.New(rand.NewSource(3))
	for range 3000 {
		s := small(r)
		rows, point := s.made(r), make([]int64, s.keys)
		for i := range point {
			point[i] = some(r, 9)
		}
		for i, l := range rows {
			rows[i].Const = num.Of(-int64(r.Intn(3)))
			for at, key := range l.Keys {
				rows[i].Const = num.Sub(rows[i].Const, num.Mul(l.Coefs[at], num.Of(point[key[0]-'a'])))
			}
		}
		can(t, rows...)
	}
}

// Rows with one behind them that their sum denies.
func TestRowsOfADenialCannot(t *testing.T) {
	t.Parallel()
	r := rand.New(rand.NewSource(4))
	for range 3000 {
		s := small(r)
		s.rows++
		rows := s.made(r)
		n, times := int64(0), make([]int64, s.keys)
		for _, l := range rows {
			many := int64(r.Intn(4))
			n -= many * bigOf(l.Const).Int64()
			for at, key := range l.Keys {
				times[key[0]-'a'] -= many * bigOf(l.Coefs[at]).Int64()
			}
		}
		last := row(n+1, times...)
		place := r.Intn(len(rows) + 1)
		cannot(t, slices.Insert(rows, place, last)...)
	}
}

// As many equalities as keys, of which just one point is left.
func TestRowsOfOnePoint(t *testing.T) {
	t.Parallel()
	r := rand.New(rand.NewSource(5))
	for range 300 {
		many := 1 + r.Intn(7)
		var rows []api.Linear
		point := make([]*big.Rat, many)
		for i := range point {
			point[i] = big.NewRat(some(r, 30), int64(1+r.Intn(5)))
		}
		for i := range many {
			sum, times := new(big.Rat), make([]int64, many)
			for k := range times {
				// Those below i alone, and i: so the equalities leave nothing free.
				if k <= i {
					times[k] = 60 * pick[int64](r, -3, -1, 1, 2, 5)
				}
				sum.Sub(sum, new(big.Rat).Mul(big.NewRat(times[k], 1), point[k]))
			}
			rows = append(rows, both(row(sum.Num().Int64(), times...))...)
		}
		r.Shuffle(len(rows), func(i, k int) { rows[i], rows[k] = rows[k], rows[i] })
		for i, a := range can(t, rows...) {
			if ratOf(a).Cmp(point[i]) != 0 {
				t.Fatal(ratOf(a), point[i], short(rows...))
			}
		}
	}
}

// A denial is what a certificate's last step asks for.
func TestDenialsAreCertificates(t *testing.T) {
	t.Parallel()
	r := rand.New(rand.NewSource(6))
	many := 0
	for range 500 {
		s := small(r)
		rows := s.made(r)
		a := asked(t, rows...)
		o, p := obligation(s.keys, rows...), api.Proof{Kind: api.ProofFarkas}
		for i := range rows {
			p.At = append(p.At, i)
		}
		p.Coefs = a.denial
		if len(a.denial) == 0 {
			// What a point holds no certificate can show: one of all rows, each once, fails.
			p.Coefs = slices.Repeat([]api.Ratio{ratio.Whole(num.Of(1))}, len(rows))
		}
		if got := proof.Check(nil, o, p); got == api.OK != (len(a.denial) > 0) {
			t.Fatal(got, texts(p.Coefs...), short(rows...))
		} else if got == api.OK {
			many++
		}
	}
	if many < 100 {
		t.Error(many)
	}
}

// obligation supposes of a, b, c, so many, that all rows are at most 0, and has a goal that never is.
func obligation(keys int, rows ...api.Linear) api.Obligation {
	var o api.Obligation
	o.Goal = api.Term{Kind: api.TermFalse}
	for i := range keys {
		o.Scope = append(o.Scope, api.Sorted{Name: string(rune('a' + i)), Sort: api.SortInt})
	}
	for _, l := range rows {
		sum := api.Term{Kind: api.TermAdd, Kids: []api.Term{{Kind: api.TermNum, Num: l.Const}}}
		for i, key := range l.Keys {
			sum.Kids = append(sum.Kids, api.Term{Kind: api.TermScale, Num: l.Coefs[i], Kids: []api.Term{{Kind: api.TermVar, Name: key}}})
		}
		o.Hyps = append(o.Hyps, api.Term{Kind: api.TermLe, Kids: []api.Term{sum, {Kind: api.TermNum}}})
	}
	return o
}

// Keys of atoms are like any others.
func TestKeysOfAtoms(t *testing.T) {
	x := term.Key(api.Term{Kind: api.TermVar, Name: "x"})
	tag := term.Key(api.Term{Kind: api.TermApp, Name: "tag", Kids: []api.Term{{Kind: api.TermVar, Name: "x"}}})
	two := api.Linear{Keys: []string{x, tag}, Coefs: []api.Int{num.Of(1), num.Of(-1)}, Const: num.Of(1)}
	cannot(t, two, on(tag, 1, 0), on(x, -1, 0))
	if a := asked(t, two, on(tag, 1, -1), on(x, -1, 0)); texts(a.point...) != "0 1" || !slices.Equal(a.keys, []string{x, tag}) {
		t.Error(a.keys, texts(a.point...))
	}
}

// Rows that are not right.

func wrongRows() []api.Linear {
	one, two := num.Of(1), num.Of(2)
	l := []api.Linear{
		{Keys: []string{"a"}},
		{Coefs: []api.Int{one}},
		{Keys: []string{"a", "b"}, Coefs: []api.Int{one}},
		{Keys: []string{"a"}, Coefs: []api.Int{one, two}},
		{Keys: []string{"b", "a"}, Coefs: []api.Int{one, two}},
		{Keys: []string{"a", "a"}, Coefs: []api.Int{one, two}},
		{Keys: []string{"a", "c", "b"}, Coefs: []api.Int{one, two, one}},
		{Keys: []string{"", ""}, Coefs: []api.Int{one, two}},
		{Keys: []string{"\xff", "é"}, Coefs: []api.Int{one, two}},
		{Keys: []string{"a"}, Coefs: []api.Int{{}}},
		{Keys: []string{"a", "b"}, Coefs: []api.Int{one, {}}, Const: one},
	}
	for _, n := range wrongNumbers() {
		l = append(l, api.Linear{Const: n}, api.Linear{Keys: []string{"a"}, Coefs: []api.Int{n}}, api.Linear{Keys: []string{"a", "b"}, Coefs: []api.Int{one, n}, Const: two})
		l = append(l, api.Linear{Keys: []string{"a"}, Coefs: []api.Int{one}, Const: n})
	}
	return l
}

func TestRowsThatAreNotRightAreRefused(t *testing.T) {
	for _, wrong := range wrongRows() {
		refused(t, wrong)
		for _, rows := range [][]api.Linear{{row(0)}, {row(1)}, {row(-1, 1), row(0, 0, 5)}, {atMost("x", 1, 2), atLeast("x", 1, 3)}, {row(1, 1), row(2, 2), row(3, -1, 5)}} {
			for place := range len(rows) + 1 {
				refused(t, slices.Insert(slices.Clone(rows), place, wrong)...)
			}
			refused(t, append(slices.Clone(rows), wrong, wrong)...)
		}
	}
}
