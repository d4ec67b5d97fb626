package norm_test

import (
	"math/rand"
	"slices"
	"testing"

	"whetstone/api"
	"whetstone/norm"
	"whetstone/num"
	"whetstone/term"
)

// Literal, Pushed and Push in the words of the document, and held against these.

func isLiteral(t api.Term) bool {
	many := len(t.Kids)
	switch t.Kind {
	case api.TermTrue, api.TermFalse, api.TermVar:
		return many == 0
	case api.TermApp:
		return many == 1
	case api.TermLe, api.TermEq:
		return many == 2
	case api.TermNot:
		if many != 1 {
			return false
		}
		of := t.Kids[0].Kind
		return (of == api.TermVar || of == api.TermApp || of == api.TermEq) && isLiteral(t.Kids[0])
	}
	return false
}

func isPushed(t api.Term) bool {
	if t.Kind != api.TermAnd && t.Kind != api.TermOr {
		return isLiteral(t)
	}
	return !slices.ContainsFunc(t.Kids, func(kid api.Term) bool { return !isPushed(kid) })
}

// reckon is t pushed down, as the document's table has it; t has a sort in the world, bool.
func reckon(t api.Term, is bool) api.Term {
	both := map[bool]func(l ...api.Term) api.Term{true: and, false: or}
	l := t.Kids
	each := func(is bool) []api.Term {
		var made []api.Term
		for _, kid := range l {
			made = append(made, reckon(kid, is))
		}
		return made
	}
	switch t.Kind {
	case api.TermTrue, api.TermFalse:
		if (t.Kind == api.TermTrue) == is {
			return yes()
		}
		return no()
	case api.TermNot:
		return reckon(l[0], !is)
	case api.TermAnd:
		return both[is](each(is)...)
	case api.TermOr:
		return both[!is](each(is)...)
	case api.TermIff:
		if is {
			return and(or(reckon(l[0], false), reckon(l[1], true)), or(reckon(l[1], false), reckon(l[0], true)))
		}
		return and(or(reckon(l[0], true), reckon(l[1], true)), or(reckon(l[0], false), reckon(l[1], false)))
	}
	if is {
		return t
	}
	more := func(i int) api.Term { return add(l[i], number(1)) }
	if t.Kind == api.TermLe {
		return most(more(1), l[0])
	}
	if t.Kind == api.TermEq {
		if sort, _ := term.Sort(world(), row(), l[0]); sort == "int" {
			return or(most(more(0), l[1]), most(more(1), l[0]))
		}
	}
	return not(t)
}

// reckonErr is the error that the document asks of t, and is api.OK where t is pushed down to what reckon makes.
func reckonErr(t api.Term, is bool) api.Errno {
	sort, e := term.Sort(world(), row(), t)
	switch {
	case e != api.OK:
		return e
	case sort != "bool":
		return api.ErrSort
	case term.Size(reckon(t, is)) > 20000:
		return api.ErrGrown
	}
	return api.OK
}

func TestLiteralAndPushedAreAsTheWordsSay(t *testing.T) {
	r := rand.New(rand.NewSource(1))
	many := map[[2]bool]int{}
	for range 30000 {
		a := somePushed(r, 1+r.Intn(16))
		if r.Intn(3) == 0 {
			a = someFormula(r, 1+r.Intn(20))
		}
		if r.Intn(2) == 0 {
			a = spoilt(r, a)
		}
		literal, pushed := norm.Literal(a), norm.Pushed(a)
		if literal != isLiteral(a) || pushed != isPushed(a) {
			t.Fatal(literal, pushed, short(a))
		}
		many[[2]bool{literal, pushed}]++
	}
	if many[[2]bool{true, true}] < 1000 || many[[2]bool{false, true}] < 1000 || many[[2]bool{false, false}] < 1000 || len(many) != 3 {
		t.Error(many)
	}
}

func TestPushIsAsTheWordsSay(t *testing.T) {
	r := rand.New(rand.NewSource(2))
	many := map[api.Errno]int{}
	for range 30000 {
		a, is := someFormula(r, 1+r.Intn(60)), r.Intn(2) == 0
		switch r.Intn(6) {
		case 0:
			a = spoilt(r, a)
		case 1:
			a = pick(r, someNumber(r, 5), someList(r, 5), someOther(r, 5))
		}
		got, e := push(a, is)
		want := reckonErr(a, is)
		many[e]++
		if e != want {
			t.Fatal(e, "is not", want, short(a))
		}
		made := api.Term{}
		if e == api.OK {
			made = reckon(a, is)
		}
		if !same(got, made) {
			t.Fatal(is, short(a), ":", short(got), "is not", short(made))
		}
	}
	for _, e := range []api.Errno{api.OK, api.ErrName, api.ErrSort, api.ErrMany} {
		if many[e] < 100 {
			t.Error(e, many)
		}
	}
}

// What is great is held against the words too: iffs within iffs, and rows that are near to what may be.
func TestPushOfWhatIsGreatIsAsTheWordsSay(t *testing.T) {
	r := rand.New(rand.NewSource(3))
	many := map[api.Errno]int{}
	for range 300 {
		a := someFormula(r, 1+r.Intn(6))
		for range r.Intn(9) {
			a = pick(r, iff(a, someFormula(r, 6)), iff(someFormula(r, 6), a), iff(not(a), someFormula(r, 3)))
		}
		if r.Intn(3) == 0 {
			a = pick(r, and, or)(times(20000/max(1, term.Size(reckon(a, true)))+r.Intn(2), a)...)
		}
		is := r.Intn(2) == 0
		got, e := push(a, is)
		many[e]++
		if e != reckonErr(a, is) {
			t.Fatal(e, short(a))
		}
		if e == api.OK && !same(got, reckon(a, is)) {
			t.Fatal(is, short(a))
		}
	}
	if many[api.OK] < 30 || many[api.ErrGrown] < 30 {
		t.Error(many)
	}
}

// The number 1 that Push makes is the right one.
func TestTheOneThatIsMadeIsRight(t *testing.T) {
	got, e := push(most(name("n"), name("m")), false)
	if e != api.OK || !num.Right(got.Kids[0].Kids[1].Num) || num.Cmp(got.Kids[0].Kids[1].Num, num.Of(1)) != 0 {
		t.Error(e, short(got))
	}
}
