package proof_test

import (
	"math/rand"
	"reflect"
	"runtime/debug"
	"slices"
	"testing"

	"whetstone/api"
	"whetstone/num"
	"whetstone/proof"
)

// R1: certificates deeper than calls may be nested, and terms of more parts than others may have.

// stack is how many bytes nested calls may take here: what nests a call for each step of what is deep needs more.
const stack = 1 << 23

func sameProof(a, b api.Proof) bool { return reflect.DeepEqual(a, b) }

func TestDeepCertificates(t *testing.T) {
	defer debug.SetMaxStack(debug.SetMaxStack(stack))
	const depth = 60000
	n, s := name("n"), name("s")
	for i, step := range []func(p api.Proof) api.Proof{
		func(p api.Proof) api.Proof { return same(s, s, nil, p) },
		func(p api.Proof) api.Proof { return apply(2, "tag", p) },
		func(p api.Proof) api.Proof { return part(1, p) },
		func(p api.Proof) api.Proof { return cut(places(3), times("1"), p) },
		func(p api.Proof) api.Proof { return split(n, 5, falsehood(0), p) },
		func(p api.Proof) api.Proof { return split(n, 5, p, falsehood(0)) },
		func(p api.Proof) api.Proof { return cases(4, p) },
	} {
		for _, ok := range []bool{true, false} {
			p := falsehood(0)
			if !ok {
				p = falsehood(1)
			}
			for range depth {
				p = step(p)
			}
			o := trees().obliged(no(), no(), and(yes()), equals(s, s), atMost(scale(2, n), number(5)), or(yes()))
			if e := proof.Check(trees().datas, o, p); e != when(ok) {
				t.Error(i, e)
			}
		}
	}
}

// The last place is that of what was laid last.
func TestPlacesOfWhatIsDeep(t *testing.T) {
	const depth = 30000
	for last, ok := range map[int]bool{depth + 1: true, depth + 2: false, depth: false, 2 * depth: false} {
		p := part(0, falsehood(last))
		for range depth - 1 {
			p = same(name("n"), name("n"), nil, p)
		}
		tells(t, trees().obliged(no(), and(no())), p, when(ok))
	}
}

func TestDeepAndWideTerms(t *testing.T) {
	defer debug.SetMaxStack(debug.SetMaxStack(stack))
	const depth = 150000
	a := deep(depth, "FORK.0", name("s"))
	end := falsehood(0)
	shows(t, same(a, a, nil, apply(2, "FORK.0", apply(3, "FORK.2", part(4, end)))), no())
	fails(t, same(a, app("FORK.0", a), nil, end), no())
	wrong := deep(depth, "FORK.0", name("n"))
	fails(t, same(wrong, wrong, nil, end), no())
	shows(t, split(app("tag", a), 0, cut(places(3), times("3"), end), farkas(places(3, 1), "0", "1")), no(), atMost(number(1), number(0)))
	fails(t, split(app("tag", a), 0, cut(places(3), times("1/3"), end), end), no())
	// A conjunction, a disjunction of as many as may be.
	const many = api.MaxTerm - 2
	l := slices.Repeat([]api.Term{yes()}, many)
	shows(t, part(0, falsehood(many+1)), and(append(l[:many-1:many-1], no())...))
	fails(t, part(0, falsehood(many)), and(append(l[:many-1:many-1], no())...))
	ways, ends := slices.Repeat([]api.Term{no()}, many), slices.Repeat([]api.Proof{falsehood(2)}, many)
	shows(t, cases(0, ends...), or(ways...))
	fails(t, cases(0, ends[1:]...), or(ways...))
	ends[many-1] = falsehood(3)
	fails(t, cases(0, ends...), or(ways...))
}

// Great sums, of facts that many steps have in theirs.
func TestGreatSums(t *testing.T) {
	var l []api.Term
	for i := range 900 {
		l = append(l, scale(int64(i+1), deep(i%5, "FORK.0", name("s"))), name("n"))
	}
	for i := range l {
		if i%2 == 0 {
			l[i].Kids[0] = app("tag", l[i].Kids[0])
		}
	}
	great := add(l...)
	end := farkas(places(0, 1, 0, 1), "1/2", "1/3", "1/2", "2/3")
	p := end
	for range 3000 {
		p = split(name("n"), 0, end, p)
	}
	shows(t, p, atMost(great, number(5)), atMost(number(6), great))
	fails(t, p, atMost(great, number(5)), atMost(number(5), great))
	at, coefs := slices.Repeat(places(0, 1), 2000), slices.Repeat([]string{"1/7"}, 4000)
	shows(t, farkas(at, coefs...), atMost(great, number(5)), atMost(number(6), great))
	coefs[3999] = "2/7"
	fails(t, farkas(at, coefs...), atMost(great, number(5)), atMost(number(6), great))
}

func TestManyHypotheses(t *testing.T) {
	const many = 100000
	hyps := slices.Repeat([]api.Term{name("p")}, many)
	hyps[many-1] = not(name("p"))
	tells(t, trees().obliged(no(), hyps...), clash(0, many-1), api.OK)
	tells(t, trees().obliged(no(), hyps...), clash(0, many), api.ErrProof)
	hyps[many-1] = name("none")
	tells(t, trees().obliged(no(), hyps...), clash(0, many-1), api.ErrName)
}

// R3, R4, R6

// remade is v in memory of its own, each list with room behind it, or, where there are none, with or without memory.
func remade(v reflect.Value, empty bool) reflect.Value {
	made := reflect.New(v.Type()).Elem()
	switch v.Kind() {
	case reflect.Struct:
		for i := range v.NumField() {
			made.Field(i).Set(remade(v.Field(i), empty))
		}
	case reflect.Slice:
		if v.Len() == 0 && !empty {
			return made
		}
		made.Set(reflect.MakeSlice(v.Type(), v.Len(), v.Len()+3))
		for i := range v.Len() {
			made.Index(i).Set(remade(v.Index(i), empty))
		}
	default:
		made.Set(v)
	}
	return made
}

func fresh[T any](v T, empty bool) T {
	return remade(reflect.ValueOf(v), empty).Interface().(T)
}

// opened is v with the room behind its lists.
func opened(v reflect.Value) reflect.Value {
	made := reflect.New(v.Type()).Elem()
	switch v.Kind() {
	case reflect.Struct:
		for i := range v.NumField() {
			made.Field(i).Set(opened(v.Field(i)))
		}
	case reflect.Slice:
		if v.IsNil() {
			return made
		}
		all := v.Slice(0, v.Cap())
		made.Set(reflect.MakeSlice(v.Type(), all.Len(), all.Len()))
		for i := range all.Len() {
			made.Index(i).Set(opened(all.Index(i)))
		}
	default:
		made.Set(v)
	}
	return made
}

func untouched[T any](v, was T) bool {
	return reflect.DeepEqual(opened(reflect.ValueOf(v)).Interface(), opened(reflect.ValueOf(was)).Interface())
}

// eachCourse hands out obligations with certificates, in the world, that show something or not.
func eachCourse(many int, seed int64, do func(w world, o api.Obligation, p api.Proof)) {
	r := rand.New(rand.NewSource(seed))
	for i := range many {
		w := pick(r, trees, odds)()
		o := w.someObligation(r)
		p, _ := w.prove(r, o, 5)
		if i%3 == 0 {
			p = spoil(r, p)
		}
		do(w, o, p)
	}
	w := trees()
	for _, p := range ofEach() {
		do(w, w.obliged(no(), sides()...), p)
	}
}

func TestCallsChangeNothing(t *testing.T) {
	eachCourse(600, 4, func(w world, o api.Obligation, p api.Proof) {
		want := proof.Check(w.datas, o, p)
		for _, empty := range []bool{true, false} {
			datas, own, cert := fresh(w.datas, empty), fresh(o, empty), fresh(p, empty)
			wasDatas, wasOwn, wasCert := fresh(w.datas, empty), fresh(o, empty), fresh(p, empty)
			if e := proof.Check(datas, own, cert); e != want {
				t.Fatal(e, want)
			}
			if n := proof.Size(cert, cert); n != 2*len(nodes(&p)) {
				t.Fatal(n)
			}
			if !untouched(datas, wasDatas) || !untouched(own, wasOwn) || !untouched(cert, wasCert) {
				t.Fatal("what was given is changed:", o, p)
			}
		}
	})
}

func TestOneThingIsAnsweredAlikeEachTime(t *testing.T) {
	eachCourse(200, 5, func(w world, o api.Obligation, p api.Proof) {
		want := proof.Check(w.datas, o, p)
		for range 10 {
			if e := proof.Check(w.datas, o, p); e != want {
				t.Fatal(e, want)
			}
		}
	})
}

// What is kept of one call is not met by the next one.
func TestWhatIsGivenIsNotKept(t *testing.T) {
	n := name("n")
	o := trees().obliged(no(), atMost(n, number(3)), atMost(number(5), n))
	p := farkas(places(0, 1), "1", "1")
	tells(t, o, p, api.OK)
	o.Hyps[1].Kids[0].Num = num.Of(3)
	tells(t, o, p, api.ErrProof)
	o.Hyps[1].Kids[0].Num = num.Of(4)
	tells(t, o, p, api.OK)
	p.Coefs[0] = times("2")[0]
	tells(t, o, p, api.ErrProof)
}
