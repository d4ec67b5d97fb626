package linear_test

import (
	"math/big"
	"math/rand"
	"slices"
	"testing"

	"whetstone/api"
	"whetstone/linear"
	"whetstone/num"
	"whetstone/ratio"
)

// P6.2

// told fails, unless what Sum tells is of these keys, parts and number, and true.
func told(t *testing.T, coefs []api.Ratio, l []api.Linear, wantKeys []string, wantParts []api.Ratio, want api.Ratio, what ...int) {
	t.Helper()
	keys, parts, n, ok := linear.Sum(coefs, l...)
	if !ok || !slices.Equal(keys, wantKeys) || !slices.EqualFunc(parts, wantParts, sameRatio) || !sameRatio(n, want) {
		t.Errorf("%v %v: %s is not %s", what, ok, shortParts(keys, parts, n), shortParts(wantKeys, wantParts, want))
	}
}

// refused fails, unless Sum tells no keys, no parts, 0 by 1 and false.
func refused(t *testing.T, coefs []api.Ratio, l []api.Linear, what ...int) {
	t.Helper()
	keys, parts, n, ok := linear.Sum(coefs, l...)
	if ok || len(keys) != 0 || len(parts) != 0 || !sameRatio(n, broken(0, 1)) {
		t.Errorf("%v %v: %s", what, ok, shortParts(keys, parts, n))
	}
}

func TestSum(t *testing.T) {
	vx, one := sumOf(0, on(x), 1), sumOf(1, nil)
	two := sumOf(3, on(x, y), 2, -1)
	great := num.Mul(num.Of(1<<62), num.Of(1<<62))
	for i, c := range []struct {
		coefs []api.Ratio
		l     []api.Linear
		keys  []string
		parts []api.Ratio
		n     api.Ratio
	}{
		// The document's example.
		{brokens("1/2", "1/2"), []api.Linear{sumOf(1, on(x), 1), vx}, on(x), brokens("1"), broken(1, 2)},
		// None, and one.
		{nil, nil, nil, nil, broken(0, 1)}, {brokens("1"), []api.Linear{{}}, nil, nil, broken(0, 1)}, {brokens("1"), []api.Linear{vx}, on(x), brokens("1"), broken(0, 1)}, {brokens("-7"), []api.Linear{one}, nil, nil, broken(-7, 1)}, {brokens("2/3"), []api.Linear{two}, on(x, y), brokens("4/3", "-2/3"), broken(2, 1)},
		{brokens("1/6"), []api.Linear{sumOf(-4, on(x, y, z), 2, 3, 6)}, on(x, y, z), brokens("1/3", "1/2", "1"), broken(-2, 3)},
		// A coef of 0.
		{brokens("0"), []api.Linear{two}, nil, nil, broken(0, 1)}, {brokens("0", "1"), []api.Linear{two, vx}, on(x), brokens("1"), broken(0, 1)}, {brokens("1", "0"), []api.Linear{vx, two}, on(x), brokens("1"), broken(0, 1)},
		// Back to 0 times, and on.
		{brokens("1", "-1"), []api.Linear{vx, vx}, nil, nil, broken(0, 1)}, {brokens("1/2", "-1/4"), []api.Linear{sumOf(0, on(x), 1), sumOf(0, on(x), 2)}, nil, nil, broken(0, 1)}, {brokens("1", "-1", "1/3"), []api.Linear{vx, vx, vx}, on(x), brokens("1/3"), broken(0, 1)},
		{brokens("1/3", "1/3", "-2/3"), []api.Linear{two, two, two}, nil, nil, broken(0, 1)}, {brokens("1", "-2"), []api.Linear{two, vx}, on(y), brokens("-1"), broken(3, 1)}, {brokens("1/3", "-1"), []api.Linear{two, one}, on(x, y), brokens("2/3", "-1/3"), broken(0, 1)},
		// Keys of several, and their order.
		{brokens("1", "1"), []api.Linear{sumOf(0, on(z), 1), sumOf(0, on(x, y), 1, 1)}, on(x, y, z), brokens("1", "1", "1"), broken(0, 1)}, {brokens("2", "3", "5"), []api.Linear{sumOf(1, on(x, z), 1, 1), sumOf(1, on(y, z), 1, 1), sumOf(1, on(x, y), 1, 1)}, on(x, y, z), brokens("7", "8", "5"), broken(10, 1)},
		{brokens("1/2", "1/3"), []api.Linear{sumOf(1, on("ka", "kab"), 1, 1), sumOf(1, on("k", "kb"), 1, 1)}, on("k", "ka", "kab", "kb"), brokens("1/3", "1/2", "1/2", "1/3"), broken(5, 6)}, {brokens("1", "1"), []api.Linear{sumOf(0, on("", "a\xff"), 1, 1), sumOf(0, on("a\x00", "é"), 1, 1)}, on("", "a\x00", "a\xff", "é"), brokens("1", "1", "1", "1"), broken(0, 1)},
		// Long numbers.
		{[]api.Ratio{ratio.Whole(great), broken(1, 2)}, []api.Linear{vx, {Keys: on(x), Coefs: []api.Int{num.Neg(great)}, Const: great}}, on(x), []api.Ratio{ratio.Mul(ratio.Whole(great), broken(1, 2))}, ratio.Mul(ratio.Whole(great), broken(1, 2))},
	} {
		told(t, c.coefs, c.l, c.keys, c.parts, c.n, i)
	}
}

func TestSumOfManyOrFew(t *testing.T) {
	vx := sumOf(5, on(x), 1)
	for i, c := range []struct {
		coefs []api.Ratio
		l     []api.Linear
	}{
		{nil, []api.Linear{vx}}, {brokens("1"), nil}, {brokens("1", "1"), []api.Linear{vx}}, {brokens("1"), []api.Linear{vx, vx}}, {brokens("0"), nil}, {brokens("1", "0"), []api.Linear{vx}}, {nil, []api.Linear{{}}}, {brokens("1", "2", "3"), []api.Linear{vx, vx}}, {brokens("1", "2"), []api.Linear{vx, vx, {}}},
	} {
		refused(t, c.coefs, c.l, i)
	}
}

func TestSumOfWhatIsNotRight(t *testing.T) {
	vx, vy, vz := sumOf(5, on(x), 1), sumOf(0, on(y), 2), sumOf(-1, on(x, z), 1, 1)
	wrong := []api.Linear{sumOf(0, on(y, x), 1, 1), sumOf(0, on(x, x), 1, 1), sumOf(0, on(x)), sumOf(0, nil, 1), sumOf(0, on(x, y), 1), sumOf(0, on(x), 0), sumOf(0, on(x, y), 1, 0)}
	for _, n := range wrongNumbers() {
		wrong = append(wrong, api.Linear{Const: n}, api.Linear{Keys: on(x), Coefs: []api.Int{n}}, api.Linear{Keys: on(x, y), Coefs: []api.Int{num.Of(1), n}, Const: num.Of(2)})
	}
	for i, l := range wrong {
		for place := range 3 {
			all := []api.Linear{vx, vy, vz}
			all[place] = l
			refused(t, brokens("1", "1/2", "-3"), all, i, place)
			coefs := brokens("1", "1", "1")
			coefs[place] = broken(0, 1)
			refused(t, coefs, all, i, place)
		}
		refused(t, brokens("1"), []api.Linear{l}, i)
		refused(t, brokens("1", "-1"), []api.Linear{l, l}, i)
	}
	for i, a := range wrongRatios() {
		for place := range 3 {
			coefs := brokens("1", "1/2", "-3")
			coefs[place] = a
			refused(t, coefs, []api.Linear{vx, vy, vz}, i, place)
			refused(t, coefs, []api.Linear{{}, {}, {}}, i, place)
		}
		refused(t, []api.Ratio{a}, []api.Linear{vx}, i)
		refused(t, []api.Ratio{a}, wrong[:1], i)
	}
}

// sumTally is the sum of all in the words of the document.
func sumTally(coefs []api.Ratio, l []api.Linear) (keys []string, parts []api.Ratio, n api.Ratio) {
	times, sum := map[string]*big.Rat{}, new(big.Rat)
	for i, one := range l {
		for j, key := range one.Keys {
			if times[key] == nil {
				times[key] = new(big.Rat)
			}
			times[key].Add(times[key], new(big.Rat).Mul(ratOf(coefs[i]), new(big.Rat).SetInt(bigOf(one.Coefs[j]))))
		}
		sum.Add(sum, new(big.Rat).Mul(ratOf(coefs[i]), new(big.Rat).SetInt(bigOf(one.Const))))
	}
	for key, part := range times {
		if part.Sign() != 0 {
			keys = append(keys, key)
		}
	}
	slices.Sort(keys)
	for _, key := range keys {
		parts = append(parts, ratioOf(times[key]))
	}
	return keys, parts, ratioOf(sum)
}

func ratioOf(a *big.Rat) api.Ratio {
	text := a.Num().String()
	if !a.IsInt() {
		text += "/" + a.Denom().String()
	}
	return brokens(text)[0]
}

func TestSumIsWhatTheWordsSay(t *testing.T) {
	r := rand.New(rand.NewSource(3))
	sums, refusals, emptied := 0, 0, 0
	for range 6000 {
		var coefs []api.Ratio
		var l []api.Linear
		met := map[string]int{}
		for range r.Intn(6) {
			one := someLinear(r)
			if r.Intn(20) == 0 {
				one = someWrong(r, one)
			}
			if len(l) > 0 && r.Intn(4) == 0 {
				one = pick(r, l...)
			}
			for _, key := range one.Keys {
				met[key]++
			}
			coefs, l = append(coefs, pick(r, someRatio(r), someRatio(r), broken(1, 1), broken(-1, 1))), append(l, one)
		}
		if r.Intn(20) == 0 {
			coefs = append(coefs, pick(r, append(wrongRatios(), broken(1, 1))...))
		}
		if slices.ContainsFunc(l, func(one api.Linear) bool { return !isRight(one) }) || len(coefs) != len(l) {
			refused(t, coefs, l)
			refusals++
			continue
		}
		keys, parts, n := sumTally(coefs, l)
		told(t, coefs, l, keys, parts, n)
		if len(keys) < len(met) {
			emptied++
		} else {
			sums++
		}
	}
	if sums < 3000 || refusals < 500 || emptied < 600 {
		t.Error(sums, refusals, emptied)
	}
}
