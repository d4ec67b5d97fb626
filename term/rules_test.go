package term_test

import (
	"math/rand"
	"slices"
	"testing"
	"unsafe"

	"whetstone/api"
	"whetstone/term"
)

// P4.6

func TestWhatIsPutForOtherNamesChangesNothing(t *testing.T) {
	names, terms := []string{"not there", "nor there"}, []api.Term{wide(20001), number(1)}
	for _, a := range someTerms(13, 500) {
		got, e := term.Subst(a, names, terms)
		holds(t, got, e, a, api.OK)
		if slices.ContainsFunc(parts(a), func(part api.Term) bool { return part.Kind == api.TermKappa }) {
			continue
		}
		got, e = term.Expand(nil, a)
		holds(t, got, e, a, api.OK)
	}
}

func TestWhatIsPutTogetherIsOfTheSortOfTheTerm(t *testing.T) {
	r := rand.New(rand.NewSource(14))
	for range 3000 {
		sort := []string{"int", "bool", "list", "pair"}[r.Intn(4)]
		a := ofSort(r, sort, 1+r.Intn(20))
		var names []string
		var terms []api.Term
		for _, s := range row() {
			if s.Sort == "int" && s.Name != "lost" || s.Sort == "list" || s.Sort == "bool" || s.Sort == "pair" {
				names = append(names, s.Name)
				terms = append(terms, ofSort(r, s.Sort, 1+r.Intn(8)))
			}
		}
		got, e := term.Subst(a, names, terms)
		if e != api.OK {
			t.Fatal(e)
		}
		sorted(t, got, sort, api.OK)
	}
}

func TestSizesOfWhatIsPutTogether(t *testing.T) {
	for _, a := range someTerms(15, 500) {
		names, terms := []string{"x", "y", "p"}, []api.Term{add(name("y"), number(1)), name("z"), not(name("p"))}
		want := len(parts(put(a, names, terms)))
		if got, e := term.Subst(a, names, terms); e != api.OK || term.Size(got) != want {
			t.Fatal(short(a), short(got), e)
		}
	}
}

// R1: terms deeper than calls may be nested, and wide ones.

func TestAllCallsOfDeepAndWideTerms(t *testing.T) {
	const depth = 1500000
	for _, a := range []api.Term{deep(depth, name("p")), wide(depth + 1)} {
		key := term.Key(a)
		back, ok := term.Of(key)
		if !ok || term.Key(back) != key || term.Size(a, back) != 2*(depth+1) || len(term.Free(a)) > 1 {
			t.Error("key", len(key), ok)
		}
		if back, ok = term.Of(key[:len(key)-1]); ok || !same(back, api.Term{}) {
			t.Error("a key cut off")
		}
		sorted(t, a, "bool", api.OK)
		got, e := term.Subst(a, []string{"p"}, []api.Term{a})
		holds(t, got, e, api.Term{}, api.ErrGrown)
		got, e = term.Subst(name("x"), []string{"x"}, []api.Term{a})
		holds(t, got, e, api.Term{}, api.ErrGrown)
		got, e = term.Expand(nil, a)
		holds(t, got, e, api.Term{}, api.ErrGrown)
		got, e = term.Expand(greatKappas(), kappa("drop", a))
		holds(t, got, e, truth(), api.OK)
		got, e = term.Expand([]api.Kappa{{Name: "k", Body: a}}, and(kappa("k"), kappa("none")))
		holds(t, got, e, api.Term{}, api.ErrGrown)
	}
}

// R3, R4, R6

// span is the memory of a list, with the room behind it.
type span struct{ from, to uintptr }

func spanOf[T any](l []T) span {
	var one T
	from := uintptr(unsafe.Pointer(unsafe.SliceData(l)))
	return span{from, from + uintptr(cap(l))*unsafe.Sizeof(one)}
}

// spans are the memories of all lists of terms.
func spans(l ...api.Term) []span {
	var all []span
	for _, a := range l {
		for _, part := range parts(a) {
			if cap(part.Kids) > 0 {
				all = append(all, spanOf(part.Kids))
			}
			if cap(part.Num.Digits) > 0 {
				all = append(all, spanOf(part.Num.Digits))
			}
		}
	}
	return all
}

// apart fails, if two lists share memory.
func apart(t *testing.T, what string, l ...api.Term) {
	t.Helper()
	all := spans(l...)
	slices.SortFunc(all, func(a, b span) int { return int(int64(a.from) - int64(b.from)) })
	for i := 1; i < len(all); i++ {
		if all[i].from < all[i-1].to {
			t.Fatal("two lists share memory:", what)
		}
	}
}

// roomy is a in memory of its own, with room behind all lists: a call that appends to them would be found out. It is
// full of what no call makes.
func roomy(a api.Term) api.Term {
	digits := append(slices.Clone(a.Num.Digits), 11, 12, 13)
	a.Num.Digits = digits[:len(digits)-3]
	var l []api.Term
	for _, kid := range a.Kids {
		l = append(l, roomy(kid))
	}
	l = append(l, name("room"), name("room"))
	a.Kids = l[:len(l)-2]
	return a
}

// untouched tells whether a roomy term is as it was, with the room behind its lists.
func untouched(a, was api.Term) bool {
	digits, l := a.Num.Digits, a.Kids
	if !slices.Equal(digits[len(digits):len(digits)+3], []uint32{11, 12, 13}) || !slices.EqualFunc(l[len(l):len(l)+2], []api.Term{name("room"), name("room")}, same) {
		return false
	}
	return a.Kind == was.Kind && a.Name == was.Name && sameInt(a.Num, was.Num) && slices.EqualFunc(l, was.Kids, untouched)
}

// told is all that the calls answer to a, b, with what they are put into.
func told(a, b api.Term, names []string, kappas []api.Kappa) (terms []api.Term, texts []string) {
	put, _ := term.Subst(a, names, []api.Term{b, a})
	both, _ := term.Subst(add(name("x"), name("y"), name("x")), names, []api.Term{b, a})
	open, _ := term.Expand(kappas, a)
	within, _ := term.Expand(kappas, kappa("ours", b))
	back, _ := term.Of(term.Key(a))
	sort, e := term.Sort(world(), row(), a)
	texts = append(term.Free(a), term.Key(a), sort, e.Error())
	return []api.Term{put, both, open, within, back}, texts
}

func TestNoArgumentIsChangedAndAnswersAreNewMemory(t *testing.T) {
	all := append(someTerms(16, 150), name("x"), add(name("x"), number(5), name("x")), and(kappa("ours", name("y")), kappa("ours", scaled(3, name("x")))))
	r := rand.New(rand.NewSource(17))
	for _, a := range all {
		b := all[r.Intn(len(all))]
		ours := and(name("x"), api.Term{Kind: api.TermNum, Num: api.Int{Neg: true, Digits: []uint32{0, 7}}}, name("x"))
		ownA, ownB, ownOurs := roomy(a), roomy(b), roomy(ours)
		names, scope, datas := []string{"x", "y"}, row(), world()
		kappas := []api.Kappa{{Name: "ours", Params: params("x"), Body: ownOurs}, {Name: "K", Body: truth()}}
		terms, texts := told(ownA, ownB, names, kappas)
		again, textsAgain := told(a, b, names, []api.Kappa{{Name: "ours", Params: params("x"), Body: ours}, {Name: "K", Body: truth()}})
		term.Sort(datas, scope, ownA)
		term.Function(datas, "CONS.0")
		if !slices.EqualFunc(terms, again, same) || !slices.Equal(texts, textsAgain) {
			t.Fatal("answered otherwise:", short(a), short(b))
		}
		apart(t, short(a)+","+short(b), append(terms, ownA, ownB, ownOurs)...)
		if !untouched(ownA, a) || !untouched(ownB, b) || !untouched(ownOurs, ours) || !slices.Equal(names, []string{"x", "y"}) || !slices.Equal(scope, row()) || !slices.EqualFunc(datas, world(), sameData) || kappas[0].Name != "ours" || !slices.Equal(kappas[0].Params, params("x")) {
			t.Fatal("an argument is changed:", short(a), short(b))
		}
	}
}

func sameData(a, b api.Data) bool {
	return a.Name == b.Name && slices.EqualFunc(a.Cons, b.Cons, func(c, d api.Con) bool { return c.Name == d.Name && slices.Equal(c.Fields, d.Fields) })
}

func TestFreeIsNewEachTime(t *testing.T) {
	a := add(name("y"), name("x"))
	first := term.Free(a)
	first[0] = "changed"
	if got := term.Free(a); !slices.Equal(got, []string{"x", "y"}) {
		t.Error(got)
	}
}

// emptied is a with empty lists in the place of none.
func emptied(a api.Term) api.Term {
	a.Num.Digits = append([]uint32{}, a.Num.Digits...)
	l := []api.Term{}
	for _, kid := range a.Kids {
		l = append(l, emptied(kid))
	}
	a.Kids = l
	return a
}

func TestEmptyAndNilListsAreOne(t *testing.T) {
	for _, a := range someTerms(18, 300) {
		b := emptied(a)
		sort, e := term.Sort(world(), row(), a)
		sorted(t, b, sort, e)
		if term.Key(a) != term.Key(b) || term.Size(a) != term.Size(b) || !slices.Equal(term.Free(a), term.Free(b)) {
			t.Fatal(short(a))
		}
		want, wantE := term.Expand(someKappas(), a)
		got, e := term.Expand(someKappas(), b)
		holds(t, got, e, want, wantE)
		got, e = term.Subst(b, []string{}, []api.Term{})
		holds(t, got, e, a, api.OK)
	}
	if _, e := term.Sort([]api.Data{}, []api.Sorted{}, truth()); e != api.OK || term.Size([]api.Term{}...) != 0 {
		t.Error(e)
	}
	if got, e := term.Expand([]api.Kappa{{Name: "k", Params: []api.Sorted{}}}, kappa("k", []api.Term{}...)); e != api.OK || !same(got, api.Term{}) {
		t.Error(short(got), e)
	}
}
