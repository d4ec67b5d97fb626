package linear_test

import (
	"math/rand"
	"slices"
	"strings"
	"testing"

	"whetstone/api"
	"whetstone/linear"
	"whetstone/num"
	"whetstone/term"
)

// P6.3

func TestTerm(t *testing.T) {
	vx, vy := name("x"), name("y")
	great := num.Mul(num.Of(1<<62), num.Of(-1<<62))
	laden := api.Term{Kind: api.TermVar, Name: "x", Num: api.Int{Neg: true, Digits: []uint32{0, full}}, Kids: []api.Term{equals()}}
	for i, c := range []struct {
		keys  []string
		parts []api.Int
		want  api.Term
	}{
		{nil, nil, add()}, {[]string{}, []api.Int{}, add()}, {on(x), wholes(1), add(scaled(1, vx))}, {on(x), wholes(-3), add(scaled(-3, vx))}, {on(x, y), wholes(2, 5), add(scaled(2, vx), scaled(5, vy))}, {on(x), []api.Int{great}, add(scaledBy(great, vx))},
		// In that order, whether the keys rise or not.
		{on(y, x), wholes(5, 2), add(scaled(5, vy), scaled(2, vx))}, {on(z, x, y), wholes(1, 2, 3), add(scaled(1, name("z")), scaled(2, vx), scaled(3, vy))},
		// A part that is 0, a key that comes twice.
		{on(x), wholes(0), add(scaled(0, vx))}, {on(x, y, z), wholes(1, 0, 2), add(scaled(1, vx), scaled(0, vy), scaled(2, name("z")))}, {on(x, x), wholes(2, 2), add(scaled(2, vx), scaled(2, vx))}, {on(x, y, x), wholes(1, 0, -1), add(scaled(1, vx), scaled(0, vy), scaled(-1, vx))},
		// Atoms of all kinds.
		{on("7 3:tag  1;" + x), wholes(4), add(scaled(4, app("tag", vx)))}, {on("7 3:tag  0;", "1 0:  0;"), wholes(4, 1), add(scaled(4, app("tag")), scaled(1, name("")))}, {on("7 1:f  1;8 0:  2;" + x + x), wholes(4), add(scaled(4, app("f", equals())))}, {on(term.Key(laden)), wholes(7), add(scaled(7, laden))},
	} {
		got, ok := linear.Term(c.keys, c.parts)
		if !ok || !sameTerm(got, c.want) {
			t.Error(i, ok, term.Key(got))
		}
	}
}

// noTerm fails, unless Term tells a zero term and false.
func noTerm(t *testing.T, keys []string, parts []api.Int, what ...string) {
	t.Helper()
	if got, ok := linear.Term(keys, parts); ok || !sameTerm(got, api.Term{}) {
		t.Error(what, strings.Join(keys, ","), ok, term.Key(got))
	}
}

func TestTermOfWhatMayNotBe(t *testing.T) {
	for _, c := range []struct {
		keys  []string
		parts []api.Int
	}{{on(x), nil}, {nil, wholes(1)}, {on(x, y), wholes(1)}, {on(x), wholes(1, 1)}, {on(x, y, z), wholes(1, 2)}, {nil, wholes(0)}, {on(x), wholes(1, 0)}} {
		noTerm(t, c.keys, c.parts, "as many")
	}
	for _, wrong := range wrongNumbers() {
		for place := range 3 {
			parts := wholes(1, 0, 2)
			parts[place] = wrong
			noTerm(t, on(x, y, z), parts, "a part")
			noTerm(t, on(x, "3 0:  0;", z), parts, "a part")
		}
		noTerm(t, on(x), []api.Int{wrong}, "a part")
	}
	keys := []string{"", "x", "1 1:x  0", "1 1:x  0; ", x + x, "01 1:x  0;", "1 2:x  0;", "7 3:tag  1;", "7 3:tag  1;" + x + x, "7 3:tag  2;" + x, "256 0:  0;", "1 1:x 07. 0;"}
	for kind := range 256 {
		if kind != int(api.TermVar) && kind != int(api.TermApp) {
			keys = append(keys, term.Key(kids(api.TermKind(kind))), term.Key(api.Term{Kind: api.TermKind(kind), Name: "x", Num: num.Of(1), Kids: []api.Term{name("x")}}))
		}
	}
	for _, key := range keys {
		for place := range 3 {
			l := on(x, y, z)
			l[place] = key
			noTerm(t, l, wholes(1, 2, 3), "a key")
			noTerm(t, l, wholes(0, 0, 0), "a key")
		}
		noTerm(t, on(key), wholes(1), "a key")
	}
}

func TestTermIsWhatTheWordsSay(t *testing.T) {
	r := rand.New(rand.NewSource(4))
	made, refusals := 0, 0
	for range 4000 {
		var keys []string
		var parts []api.Int
		want, wantOK := add(), true
		for range r.Intn(8) {
			atom, n := pick(r, someAtoms()...), someNumber(r)
			if r.Intn(12) == 0 {
				atom = spoilt(r, atom)
			}
			if r.Intn(20) == 0 {
				n = pick(r, wrongNumbers()...)
			}
			wantOK = wantOK && num.Right(n) && slices.Contains([]api.TermKind{api.TermVar, api.TermApp}, atom.Kind)
			keys, parts, want.Kids = append(keys, term.Key(atom)), append(parts, n), append(want.Kids, scaledBy(n, atom))
		}
		if !wantOK {
			noTerm(t, keys, parts)
			refusals++
			continue
		}
		got, ok := linear.Term(keys, parts)
		if !ok || !sameTerm(got, want) {
			t.Fatal(strings.Join(keys, ","), ok, term.Key(got))
		}
		made++
	}
	if made < 1000 || refusals < 500 {
		t.Error(made, refusals)
	}
}
