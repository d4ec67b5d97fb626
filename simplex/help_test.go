package simplex_test

import (
	"math/big"
	"math/rand"
	"slices"
	"strconv"
	"strings"
	"testing"

	"whetstone/api"
	"whetstone/linear"
	"whetstone/num"
	"whetstone/ratio"
	"whetstone/simplex"
)

const full = 1<<32 - 1 // the greatest digit that there is

// Rows.

// row is n, and as many times a, b, c and so on as stands here.
func row(n int64, times ...int64) api.Linear {
	l := api.Linear{Const: num.Of(n)}
	for i, many := range times {
		if many != 0 {
			l.Keys, l.Coefs = append(l.Keys, string(rune('a'+i))), append(l.Coefs, num.Of(many))
		}
	}
	return l
}

// on is n, and a key so many times.
func on(key string, many, n int64) api.Linear {
	return api.Linear{Keys: []string{key}, Coefs: []api.Int{num.Of(many)}, Const: num.Of(n)}
}

// atMost says that a key, many times, is at most n; atLeast that it is at least n.
func atMost(key string, many, n int64) api.Linear  { return on(key, many, -n) }
func atLeast(key string, many, n int64) api.Linear { return on(key, -many, n) }

// scaled is a row so many times.
func scaled(l api.Linear, by api.Int) api.Linear {
	made := api.Linear{Keys: slices.Clone(l.Keys), Const: num.Mul(l.Const, by)}
	for _, n := range l.Coefs {
		made.Coefs = append(made.Coefs, num.Mul(n, by))
	}
	return made
}

// both are a row and it -1 times: it has to be 0.
func both(l api.Linear) []api.Linear {
	return []api.Linear{l, scaled(l, num.Of(-1))}
}

func cloned(rows ...api.Linear) []api.Linear {
	var made []api.Linear
	for _, l := range rows {
		made = append(made, scaled(l, num.Of(1)))
	}
	return made
}

// digits is a number of so many digits, all of them 7.
func digits(many int) api.Int {
	return api.Int{Digits: slices.Repeat([]uint32{7}, many)}
}

// Numbers.

// wrongNumbers are numbers that are not right.
func wrongNumbers() []api.Int {
	return []api.Int{{Neg: true}, {Neg: true, Digits: []uint32{}}, {Digits: []uint32{0}}, {Neg: true, Digits: []uint32{0}}, {Digits: []uint32{7, 0}}, {Digits: []uint32{api.Base}}, {Neg: true, Digits: []uint32{1, full}}}
}

func bigOf(n api.Int) *big.Int {
	sum := new(big.Int)
	for _, d := range slices.Backward(n.Digits) {
		sum.Add(sum.Mul(sum, big.NewInt(api.Base)), big.NewInt(int64(d)))
	}
	if n.Neg {
		sum.Neg(sum)
	}
	return sum
}

func intOf(n *big.Int) api.Int {
	made, ok := num.Parse(n.String())
	if !ok {
		panic(n)
	}
	return made
}

func ratOf(a api.Ratio) *big.Rat { return new(big.Rat).SetFrac(bigOf(a.Num), bigOf(a.Den)) }

func texts(l ...api.Ratio) string {
	var made []string
	for _, a := range l {
		made = append(made, ratio.Text(a))
	}
	return strings.Join(made, " ")
}

// short tells rows where a thing is not as it should be.
func short(rows ...api.Linear) string {
	text := strconv.Itoa(len(rows)) + " rows: "
	for _, l := range rows[:min(len(rows), 30)] {
		for i := range min(len(l.Keys), 30) {
			text += num.Text(l.Coefs[i]) + " " + strconv.Quote(l.Keys[i]) + ", "
		}
		text += num.Text(l.Const) + "; "
	}
	return text
}

// What is told.

type answer struct {
	keys          []string
	point, denial []api.Ratio
}

// asked is what is told of right rows, held against the chapter's words.
func asked(t *testing.T, rows ...api.Linear) answer {
	t.Helper()
	keys, point, denial, ok := simplex.Feasible(rows...)
	if !ok || !slices.Equal(keys, keysOf(rows...)) {
		t.Fatal(ok, keys, short(rows...))
	}
	for _, a := range slices.Concat(point, denial) {
		if !ratio.Right(a) {
			t.Fatal(a, "is not right", short(rows...))
		}
	}
	switch {
	case len(denial) > 0 && (len(point) > 0 || !denies(rows, denial)):
		t.Fatal(texts(point...), "and", texts(denial...), "is no denial of", short(rows...))
	case len(denial) == 0 && !holds(rows, keys, point):
		t.Fatal(texts(point...), "is no point of", short(rows...))
	}
	return answer{keys, point, denial}
}

// keysOf are the keys of all rows, rising, each once.
func keysOf(rows ...api.Linear) []string {
	met := map[string]struct{}{}
	for _, l := range rows {
		for _, key := range l.Keys {
			met[key] = struct{}{}
		}
	}
	var keys []string
	for key := range met {
		keys = append(keys, key)
	}
	slices.SortFunc(keys, func(a, b string) int { return slices.Compare([]byte(a), []byte(b)) })
	return keys
}

// holds tells whether each row is at most 0 where its keys are what the point has for them.
func holds(rows []api.Linear, keys []string, point []api.Ratio) bool {
	if len(point) != len(keys) {
		return false
	}
	values := map[string]*big.Rat{}
	for i, key := range keys {
		values[key] = ratOf(point[i])
	}
	for _, l := range rows {
		sum := new(big.Rat).SetInt(bigOf(l.Const))
		for i, key := range l.Keys {
			sum.Add(sum, new(big.Rat).Mul(new(big.Rat).SetInt(bigOf(l.Coefs[i])), values[key]))
		}
		if sum.Sign() > 0 {
			return false
		}
	}
	return true
}

// denies tells whether the ratios are a denial: reckoned here, and, of few rows, by linear.Sum.
func denies(rows []api.Linear, denial []api.Ratio) bool {
	if len(denial) != len(rows) {
		return false
	}
	number, sums := new(big.Rat), map[string]*big.Rat{}
	for row, l := range rows {
		times := ratOf(denial[row])
		if times.Sign() < 0 {
			return false
		}
		number.Add(number, new(big.Rat).Mul(times, new(big.Rat).SetInt(bigOf(l.Const))))
		for i, key := range l.Keys {
			if sums[key] == nil {
				sums[key] = new(big.Rat)
			}
			sums[key].Add(sums[key], new(big.Rat).Mul(times, new(big.Rat).SetInt(bigOf(l.Coefs[i]))))
		}
	}
	for _, sum := range sums {
		if sum.Sign() != 0 {
			return false
		}
	}
	if len(rows) < 30 {
		keys, parts, n, ok := linear.Sum(denial, rows...)
		if !ok || len(keys) > 0 || len(parts) > 0 || ratOf(n).Cmp(number) != 0 {
			return false
		}
	}
	return number.Sign() > 0
}

// can fails, unless a point is told; it is what the point is.
func can(t *testing.T, rows ...api.Linear) []api.Ratio {
	t.Helper()
	a := asked(t, rows...)
	if len(a.denial) > 0 {
		t.Fatal("denied:", short(rows...))
	}
	return a.point
}

// cannot fails, unless a denial is told; it is what the denial is.
func cannot(t *testing.T, rows ...api.Linear) []api.Ratio {
	t.Helper()
	a := asked(t, rows...)
	if len(a.denial) == 0 {
		t.Fatal("not denied:", short(rows...))
	}
	return a.denial
}

// refused fails, unless nothing is told, and false.
func refused(t *testing.T, rows ...api.Linear) {
	t.Helper()
	if keys, point, denial, ok := simplex.Feasible(rows...); ok || len(keys)+len(point)+len(denial) > 0 {
		t.Fatal(ok, keys, texts(point...), texts(denial...), len(rows))
	}
}

// Random ones.

// pick is one of them.
func pick[T any](r *rand.Rand, l ...T) T { return l[r.Intn(len(l))] }

// some is from -most to most.
func some(r *rand.Rand, most int) int64 { return int64(r.Intn(2*most+1) - most) }

// shape is what random rows look like: how many there are, of how many keys, of which dense in a hundred come, how far
// coefs and numbers are from 0.
type shape struct{ rows, keys, dense, coef, number int }

func (s shape) made(r *rand.Rand) []api.Linear {
	var rows []api.Linear
	for range s.rows {
		times := make([]int64, s.keys)
		for i := range times {
			if r.Intn(100) < s.dense {
				times[i] = some(r, s.coef)
			}
		}
		rows = append(rows, row(some(r, s.number), times...))
	}
	return rows
}

// small is a shape of a few rows and keys.
func small(r *rand.Rand) shape {
	return shape{r.Intn(12), 1 + r.Intn(6), 20 + r.Intn(81), pick(r, 1, 1, 2, 5, 1000), pick(r, 0, 1, 1, 5, 1000)}
}
