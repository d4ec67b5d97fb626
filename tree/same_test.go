package tree_test

import (
	"math/rand"
	"reflect"
	"testing"

	"whetstone/api"
	"whetstone/tree"
)

// P15.1: Same, Copy

// anew is a thing in memory of its own, with so much room behind each of its lists, and noise in there.
func anew[T any](a T, room int) T {
	made := reflect.New(reflect.TypeOf(a)).Elem()
	lay(made, reflect.ValueOf(a), room)
	return made.Interface().(T)
}

func lay(made, a reflect.Value, room int) {
	switch a.Kind() {
	case reflect.Struct:
		for i := range a.NumField() {
			lay(made.Field(i), a.Field(i), room)
		}
	case reflect.Slice:
		l := reflect.MakeSlice(a.Type(), a.Len()+room, a.Len()+room)
		for i := range a.Len() {
			lay(l.Index(i), a.Index(i), room)
		}
		for i := range room {
			turn(l.Index(a.Len() + i))
		}
		made.Set(l.Slice(0, a.Len()))
	default:
		made.Set(a)
	}
}

// turn makes another one of what is there, by its first part that is no list.
func turn(a reflect.Value) {
	switch {
	case a.Kind() == reflect.Struct:
		turn(a.Field(0))
	case a.Kind() == reflect.String:
		a.SetString(a.String() + "*")
	case a.Kind() == reflect.Bool:
		a.SetBool(!a.Bool())
	case a.CanInt():
		a.SetInt(a.Int() + 1)
	default:
		a.SetUint(a.Uint() ^ 1)
	}
}

// turned hands what has one part turned, one part after the other, to visit, and turns it back.
func turned(a reflect.Value, visit func()) {
	switch a.Kind() {
	case reflect.Struct:
		for i := range a.NumField() {
			turned(a.Field(i), visit)
		}
	case reflect.Slice:
		for i := range a.Len() {
			turned(a.Index(i), visit)
		}
		was := reflect.ValueOf(a.Interface())
		a.Set(reflect.Append(was, reflect.Zero(a.Type().Elem())))
		visit()
		if was.Len() > 0 {
			a.Set(was.Slice(0, was.Len()-1))
			visit()
			a.Set(was.Slice(1, was.Len()))
			visit()
		}
		a.Set(was)
	default:
		was := reflect.ValueOf(a.Interface())
		turn(a)
		visit()
		a.Set(was)
	}
}

// sames fails, unless two expressions are the same, or are not.
func sames(t *testing.T, a, b api.Expr, want bool) {
	t.Helper()
	if tree.Same(a, b) != want || tree.Same(b, a) != want {
		t.Fatal("Same is", !want, "of", shown(a), "and", shown(b))
	}
}

func TestSameWithEachPartTurned(t *testing.T) {
	rich := lam(fun(is("a"), param("b", ints(most(number(1<<40), name("n"))))), ret(api.Atom{Kind: api.AtomInt, Name: "n", Num: number(-1 << 40).Num, Truth: true}), param("p", fun(is("b"))))
	rich.Terms, rich.Atoms = []api.Term{{Kind: api.TermVar, Name: "x", Num: number(-5).Num, Kids: []api.Term{yes()}}}, []api.Atom{digit(-5), atom("x")}
	for _, e := range []api.Expr{example(), {}, odd(api.ExprIf, example(), ret(truth(true))), let("f", whole(), rich, match(atom("l"), arm("cons", ret(atom("h")), "h", "t"))), either(digit(1), ret(atom("x")), ret(atom("y")))} {
		a := anew(e, 0)
		sames(t, a, e, true)
		several := 0
		turned(reflect.ValueOf(&a).Elem(), func() {
			several++
			// A zero element laid behind none, or one of all taken away, is another expression, too.
			sames(t, a, e, false)
		})
		if several < 10 {
			t.Error(several)
		}
		sames(t, a, e, true)
	}
}

func TestSameOfOnesThatAreNearlySo(t *testing.T) {
	x, y := ret(atom("x")), ret(atom("y"))
	sames(t, either(atom("p"), x, y), either(atom("p"), y, x), false)
	sames(t, match(atom("l"), arm("a", x), arm("b", x)), match(atom("l"), arm("b", x), arm("a", x)), false)
	sames(t, match(atom("l"), arm("a", x, "h", "t")), match(atom("l"), arm("a", x, "t", "h")), false)
	sames(t, let("x", whole(), block(x), y), let("x", whole(), just(atom("x")), y), false)
	sames(t, let("x", whole(), just(atom("a")), x), let("y", whole(), just(atom("a")), y), false) // but for names
	sames(t, let("x", ints(and(yes())), just(atom("a")), x), let("x", whole(), just(atom("a")), x), false)
	sames(t, ret(digit(0)), ret(api.Atom{Kind: api.AtomInt, Num: api.Int{Digits: []uint32{0}}}), false)
	sames(t, ret(digit(0)), ret(api.Atom{Kind: api.AtomInt, Num: api.Int{Digits: []uint32{}}}), true)
	sames(t, api.Expr{Body: []api.Expr{x}}, api.Expr{Arms: []api.Arm{{Body: []api.Expr{x}}}}, false)
}

func TestSameOfAnyExpressions(t *testing.T) {
	r := rand.New(rand.NewSource(7))
	alike := 0
	for range 20000 {
		a, b := someExpr(r, r.Intn(4)), someExpr(r, r.Intn(4))
		if same(a, b) {
			alike++
		}
		sames(t, a, b, same(a, b))
		sames(t, a, anew(a, r.Intn(2)), true)
	}
	if alike < 100 {
		t.Error(alike)
	}
}

func TestCopyIsTheSame(t *testing.T) {
	r := rand.New(rand.NewSource(8))
	for range 3000 {
		p := someProgram(r)
		tells(t, "Copy", tree.Copy(p), p)
	}
	tells(t, "Copy", tree.Copy(api.Program{}), api.Program{})
	large := api.Program{Kappas: []api.Kappa{{Body: wide(70000)}}, Proofs: []api.Proof{{Terms: []api.Term{wide(70000)}}}} // it has no limit
	large.Funs = []api.Fun{{Result: ints(wide(70000)), Params: []api.Param{param("a", ints(wide(70000)))}, Body: api.Expr{Body: places(ints(wide(30000)))}}}
	tells(t, "Copy", tree.Copy(large), large)
}
