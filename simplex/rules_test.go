package simplex_test

import (
	"math/rand"
	"reflect"
	"slices"
	"strconv"
	"sync"
	"testing"
	"time"

	"whetstone/api"
	"whetstone/num"
	"whetstone/ratio"
	"whetstone/simplex"
)

// R1

// ends fails, if a call does not come to an end.
func ends(t *testing.T, call func()) {
	t.Helper()
	done := make(chan struct{})
	go func() {
		defer close(done)
		call()
	}()
	select {
	case <-done:
	case <-time.After(2 * time.Minute):
		t.Fatal("no end")
	}
}

// Rows with which the search would go in a ring of six turns for ever, if the slack that is farthest below 0 were taken
// each time: with p, q, s being b - 1, c - 1, a + b + c - 103, they are Chvátal's rows, of which s costs alone.
func TestRowsThatGoInARing(t *testing.T) {
	const far = 100
	of := func(n, p, q, s int64) api.Linear {
		return row(n-p-q-s*(3+far), s, p+s, q+s)
	}
	rows := []api.Linear{of(20, -1, -1, -1), of(-114, 11, 3, 0), of(-18, 5, 1, 0), of(-48, -18, -2, 0), of(0, -2, 0, 0), of(0, 0, -2, 0), of(0, 0, 0, -2), row(2, -2)}
	ends(t, func() { can(t, rows...) })
	ends(t, func() { cannot(t, append(rows, of(-3, 0, 0, 2))...) })
	ends(t, func() { can(t, append(rows, of(-4, 0, 0, 2))...) })
}

// Rows of which many are 0 at one point, so that many turns change nothing there.
func TestRowsThatMeetInOnePoint(t *testing.T) {
	t.Parallel()
	r := rand.New(rand.NewSource(21))
	for range 400 {
		s := shape{20 + r.Intn(20), 3 + r.Intn(6), 100, 2, 0}
		rows := s.made(r)
		can(t, rows...)
		for i := range rows {
			for at, key := range rows[i].Keys {
				rows[i].Const = num.Sub(rows[i].Const, num.Mul(rows[i].Coefs[at], num.Of(int64(key[0]))))
			}
		}
		can(t, rows...)
		for i := range rows {
			rows[i].Const = num.Add(rows[i].Const, num.Of(int64(r.Intn(2))))
		}
		asked(t, rows...)
	}
}

// Squeezed cubes (Klee and Minty), along whose edges a way may be long.
func TestCubes(t *testing.T) {
	t.Parallel()
	const many = 12
	var rows []api.Linear
	power := int64(1)
	for i := range many {
		times := make([]int64, many)
		for k := range i {
			times[k] = 2 << (i - k)
		}
		times[i] = 1
		power *= 5
		rows = append(rows, row(-power, times...))
		times = make([]int64, many)
		times[i] = -1
		rows = append(rows, row(0, times...))
	}
	last := make([]int64, many)
	last[many-1] = -1
	can(t, append(slices.Clone(rows), row(power, last...))...)
	cannot(t, append(slices.Clone(rows), row(power+1, last...))...)
}

func numbered(i int) string { return "k" + strconv.Itoa(1000000+i) }

// before says that a number is at most another one, less so many.
func before(i, k int, less int64) api.Linear {
	if i > k {
		return api.Linear{Keys: []string{numbered(k), numbered(i)}, Coefs: []api.Int{num.Of(-1), num.Of(1)}, Const: num.Of(less)}
	}
	return api.Linear{Keys: []string{numbered(i), numbered(k)}, Coefs: []api.Int{num.Of(1), num.Of(-1)}, Const: num.Of(less)}
}

func TestLongChains(t *testing.T) {
	t.Parallel()
	const many = 2000
	var rows []api.Linear
	for i := range many {
		rows = append(rows, before(i, i+1, 1))
	}
	r := rand.New(rand.NewSource(22))
	r.Shuffle(many, func(i, k int) { rows[i], rows[k] = rows[k], rows[i] })
	can(t, rows...)
	can(t, append(rows, before(many, 0, -many))...)
	for _, times := range cannot(t, append(rows, before(many, 0, 1-many))...) {
		if len(times.Num.Digits) == 0 {
			t.Fatal("a ring is denied by all its rows")
		}
	}
}

func TestManyRows(t *testing.T) {
	t.Parallel()
	const many = 5000
	var apart, one []api.Linear
	for i := range many {
		apart = append(apart, on(numbered(i), -1-int64(i%7), 5))
		one = append(one, atLeast("x", 1, int64(i)), atMost("x", 2, int64(2*many+i)))
	}
	can(t, apart...)
	cannot(t, append(apart, on(numbered(many/2), 1, 0))...)
	can(t, one...)
	cannot(t, append(one, atMost("x", 1, many-2))...)
	can(t, slices.Repeat(apart[:1], many)...)
	cannot(t, slices.Repeat([]api.Linear{row(1), row(0, 1), row(1, -1)}, many)...)
}

func TestWideRows(t *testing.T) {
	t.Parallel()
	const wide = 50000
	sum := api.Linear{Const: num.Of(1)}
	for i := range wide {
		sum.Keys, sum.Coefs = append(sum.Keys, numbered(i)), append(sum.Coefs, num.Of(int64(i+1)))
	}
	can(t, sum)
	can(t, both(sum)...)
	less := scaled(sum, num.Of(-3))
	less.Const = num.Of(-2)
	cannot(t, sum, less)
	less.Const = num.Of(-3)
	can(t, less, sum)
	long := on("x"+string(slices.Repeat([]byte{'y'}, 1<<20)), -1, 5)
	can(t, long, row(-1))
}

func TestDeepNumbers(t *testing.T) {
	t.Parallel()
	const many = 500
	var rows []api.Linear
	for i := range many {
		rows = append(rows, api.Linear{Keys: []string{numbered(i), numbered(i + 1)}, Coefs: []api.Int{num.Of(2), num.Of(-1)}, Const: num.Of(1)})
	}
	rows = append(rows, on(numbered(0), -1, 1))
	can(t, rows...)
	// The last one is at least 2 to the power of many, and that, less 1, behind it.
	end := api.Int{Digits: []uint32{1}}
	for range many + 1 {
		end = num.Add(end, end)
	}
	end = num.Sub(end, num.Of(1))
	most := api.Linear{Keys: []string{numbered(many)}, Coefs: []api.Int{num.Of(1)}, Const: num.Neg(end)}
	can(t, append(rows, most)...)
	most.Const = num.Add(most.Const, num.Of(1))
	cannot(t, append(rows, most)...)
}

// R3, R4, R6

// room are rows with room behind each list, in which what is appended to one would be found out.
func room(rows ...api.Linear) []api.Linear {
	made := make([]api.Linear, 0, len(rows)+2)
	for _, l := range rows {
		l.Keys = append(make([]string, 0, len(l.Keys)+2), l.Keys...)
		l.Coefs = append(make([]api.Int, 0, len(l.Coefs)+2), l.Coefs...)
		for i, n := range l.Coefs {
			l.Coefs[i].Digits = append(make([]uint32, 0, len(n.Digits)+2), n.Digits...)
		}
		l.Const.Digits = append(make([]uint32, 0, len(l.Const.Digits)+2), l.Const.Digits...)
		made = append(made, l)
	}
	return made
}

// whole are rows with what is behind each list.
func whole(rows []api.Linear) []api.Linear {
	var made []api.Linear
	for _, l := range rows[:cap(rows)] {
		l.Keys = slices.Clone(l.Keys[:cap(l.Keys)])
		l.Coefs = slices.Clone(l.Coefs[:cap(l.Coefs)])
		for i, n := range l.Coefs {
			l.Coefs[i].Digits = slices.Clone(n.Digits[:cap(n.Digits)])
		}
		l.Const.Digits = slices.Clone(l.Const.Digits[:cap(l.Const.Digits)])
		made = append(made, l)
	}
	return made
}

// spoil overwrites all of an answer, and what stands behind its lists.
func spoil(a answer) {
	for i := range a.keys[:cap(a.keys)] {
		a.keys[:cap(a.keys)][i] = "spoilt"
	}
	for _, l := range [][]api.Ratio{a.point, a.denial} {
		for _, n := range l[:cap(l)] {
			for _, digits := range [][]uint32{n.Num.Digits, n.Den.Digits} {
				for i := range digits[:cap(digits)] {
					digits[:cap(digits)][i] = full
				}
			}
		}
		clear(l[:cap(l)])
	}
}

// digitsOf are the lists of digits of an answer.
func digitsOf(a answer) [][]uint32 {
	var made [][]uint32
	for _, n := range slices.Concat(a.point, a.denial) {
		made = append(made, n.Num.Digits, n.Den.Digits)
	}
	return made
}

func TestNoArgumentIsChangedAndAnswersAreNewMemory(t *testing.T) {
	t.Parallel()
	r := rand.New(rand.NewSource(23))
	for range 2000 {
		rows := room(small(r).made(r)...)
		before := whole(rows)
		a, again := asked(t, rows...), asked(t, rows...)
		if !reflect.DeepEqual(whole(rows), before) {
			t.Fatal("an argument is changed", short(rows...))
		}
		kept := texts(again.point...) + ";" + texts(again.denial...)
		spoil(a)
		if !reflect.DeepEqual(whole(rows), before) {
			t.Fatal("an answer has memory of an argument", short(rows...))
		}
		if texts(again.point...)+";"+texts(again.denial...) != kept || !slices.Equal(again.keys, keysOf(rows...)) {
			t.Fatal("two answers have the same memory", short(rows...))
		}
		for i, digits := range digitsOf(again) {
			for k := range digits {
				digits[k] = full - 1
			}
			for _, others := range digitsOf(again)[i+1:] {
				if slices.Contains(others, full-1) {
					t.Fatal("two lists of an answer have the same memory", short(rows...))
				}
			}
		}
	}
}

func TestRefusedRowsAreNotChanged(t *testing.T) {
	for _, wrong := range wrongRows() {
		rows := room(row(5, 1, 2), wrong, row(1))
		before := whole(rows)
		refused(t, rows...)
		if !reflect.DeepEqual(whole(rows), before) {
			t.Error("an argument is changed", before)
		}
	}
}

func TestOneThingIsAnsweredAlike(t *testing.T) {
	t.Parallel()
	r := rand.New(rand.NewSource(24))
	for range 200 {
		rows := pick(r, small(r), shape{20, 10, 40, 5, 5}).made(r)
		a := asked(t, rows...)
		var wait sync.WaitGroup
		for range 4 {
			wait.Go(func() {
				keys, point, denial, ok := simplex.Feasible(cloned(rows...)...)
				if !ok || !reflect.DeepEqual(answer{keys, point, denial}, a) {
					t.Error(texts(point...), texts(denial...), short(rows...))
				}
			})
		}
		wait.Wait()
	}
}

func TestEmptyListsAndNilOnesAreOne(t *testing.T) {
	empty := api.Linear{Keys: []string{}, Coefs: []api.Int{}, Const: api.Int{Digits: []uint32{}}}
	for _, l := range []api.Linear{{}, empty, {Keys: []string{}}, {Coefs: []api.Int{}}} {
		can(t, l)
		can(t, l, row(-1), l)
		cannot(t, l, row(1), l)
		a := asked(t, l, row(2, 1), l, row(3, -1))
		if texts(a.denial...) != "0 1 0 1" {
			t.Error(texts(a.denial...))
		}
		if x := can(t, atMost("x", 1, 0), l, atLeast("x", 1, 0)); ratio.Text(x[0]) != "0" {
			t.Error(texts(x...))
		}
	}
	refused(t, api.Linear{Keys: []string{"a"}, Coefs: []api.Int{}})
	refused(t, api.Linear{Keys: []string{}, Coefs: []api.Int{num.Of(1)}})
	refused(t, api.Linear{Const: api.Int{Neg: true, Digits: []uint32{}}})
}
