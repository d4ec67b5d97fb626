package simplex_test

import (
	"math/rand"
	"slices"
	"testing"

	"whetstone/api"
	"whetstone/num"
)

// P11.2. (That one of both is told always, asked asks of all rows.)

func TestFewerRowsHaveAPointToo(t *testing.T) {
	t.Parallel()
	r := rand.New(rand.NewSource(11))
	points := 0
	for points < 300 {
		rows := small(r).made(r)
		if len(asked(t, rows...).denial) > 0 {
			continue
		}
		points++
		for i := range rows {
			can(t, slices.Delete(slices.Clone(rows), i, i+1)...)
		}
		for range 10 {
			can(t, slices.DeleteFunc(slices.Clone(rows), func(api.Linear) bool { return r.Intn(2) == 0 })...)
		}
	}
}

func TestMoreRowsHaveADenialToo(t *testing.T) {
	t.Parallel()
	r := rand.New(rand.NewSource(12))
	denials := 0
	for denials < 300 {
		rows := small(r).made(r)
		a := asked(t, rows...)
		if len(a.denial) == 0 {
			continue
		}
		denials++
		for range 5 {
			more := slices.Concat(small(r).made(r), rows, small(r).made(r))
			r.Shuffle(len(more), func(i, k int) { more[i], more[k] = more[k], more[i] })
			cannot(t, more...)
		}
		// Those that come in the denial are enough.
		var needed []api.Linear
		for i, times := range a.denial {
			if len(times.Num.Digits) > 0 {
				needed = append(needed, rows[i])
			}
		}
		cannot(t, needed...)
	}
}

// turned are rows that say the same: each so many times, in some order, some twice, with the keys in another order.
func turned(r *rand.Rand, rows ...api.Linear) []api.Linear {
	var made []api.Linear
	for _, l := range rows {
		same := scaled(l, num.Of(pick[int64](r, 1, 1, 2, 3, 1000, 1<<40)))
		for i, key := range same.Keys {
			same.Keys[i] = string('z' - rune(key[0]-'a'))
		}
		slices.Reverse(same.Keys)
		slices.Reverse(same.Coefs)
		made = append(made, same)
		if r.Intn(4) == 0 {
			made = append(made, same)
		}
	}
	r.Shuffle(len(made), func(i, k int) { made[i], made[k] = made[k], made[i] })
	return made
}

func TestRowsThatSayTheSame(t *testing.T) {
	t.Parallel()
	r := rand.New(rand.NewSource(13))
	for range 2000 {
		rows := small(r).made(r)
		a, b := asked(t, rows...), asked(t, turned(r, rows...)...)
		if len(a.denial) > 0 != (len(b.denial) > 0) {
			t.Fatal(texts(a.denial...), "and", texts(b.denial...), short(rows...))
		}
	}
}
