package solver_test

import (
	"testing"

	"whetstone/api"
	"whetstone/num"
	"whetstone/solver"
	"whetstone/term"
)

// P12.1

func TestExamples(t *testing.T) {
	x := v("x")
	told(t, "proof", ask(le(x, n(4)), le(x, n(3))))
	told(t, "model", ask(le(x, n(2)), le(x, n(3))))
	// Those of the document: the sum of both can not be; halved and rounded, twice.
	told(t, "proof", ask(node(api.TermFalse), le(x, n(3)), le(n(5), x)))
	told(t, "proof", ask(node(api.TermFalse), eq(scale(2, x), n(1))))
	told(t, "proof", ask(node(api.TermFalse), le(scale(2, x), n(1)), le(n(1), scale(2, x))))
	// Those of programs: a call of n and 1, a way of a match that is not gone, a number that is known.
	told(t, "proof", ask(le(n(1), v("y")), le(n(0), x), eq(v("y"), sum(x, n(1)))))
	told(t, "proof", ask(node(api.TermFalse), eq(app("tag", v("l")), n(1)), eq(v("l"), v("k")), eq(app("tag", v("k")), n(0))))
	told(t, "proof", ask(eq(v("z"), n(5)), eq(x, n(2)), eq(v("z"), sum(x, n(3)))))
}

func TestStepsThatMayNotBe(t *testing.T) {
	wrong := ask(v("nobody"), n(1))
	for _, steps := range []int{0, -1, -1 << 62, most + 1, 1 << 62} {
		for _, o := range []api.Obligation{ask(node(api.TermTrue)), wrong, {}} {
			fails(t, api.ErrArg, o, steps)
		}
	}
	for _, steps := range []int{1, 2, most - 1, most} {
		fails(t, api.ErrSort, wrong, steps)
		if f, e := solver.Solve(nil, ask(node(api.TermTrue)), steps); e != api.OK || what(t, nil, ask(node(api.TermTrue)), f) == "model" {
			t.Error(steps, e, f)
		}
	}
}

// great is a formula that is pushed down, with is or without, to too many parts.
func great() api.Term {
	t := v("p")
	for range 14 {
		t = iff(t, v("q"))
	}
	return t
}

func TestErrorsInTheirOrder(t *testing.T) {
	good, name, sort, many, grown := v("p"), v("nobody"), n(1), not(node(api.TermNot)), great()
	kinds := []struct {
		t api.Term
		e api.Errno
	}{{name, api.ErrName}, {sort, api.ErrSort}, {many, api.ErrMany}, {grown, api.ErrGrown}, {node(api.TermKappa), api.ErrSort}, {app("none.0", v("l")), api.ErrSort}, {v("x"), api.ErrSort}, {api.Term{}, api.ErrSort}}
	for _, a := range kinds {
		fails(t, a.e, ask(a.t), most)
		fails(t, a.e, ask(good, a.t), most)
		fails(t, a.e, ask(good, good, a.t, good), 1)
		for _, b := range kinds {
			// Of hypotheses the first, and the goal behind them all.
			fails(t, a.e, ask(good, good, a.t, b.t), most)
			fails(t, a.e, ask(b.t, a.t), most)
			fails(t, a.e, ask(b.t, good, a.t, good), 5)
		}
	}
	// The goal is pushed down without: that one is too great alone.
	edge := and()
	for len(edge.Kids) < 5000 {
		edge.Kids = append(edge.Kids, le(v("x"), v("y")))
	}
	if size := term.Size(edge); size > api.MaxTerm {
		t.Fatal(size)
	}
	told(t, "proof", ask(le(v("x"), v("y")), edge))
	fails(t, api.ErrGrown, ask(edge, le(v("x"), v("y"))), most)
}

func TestWhatIsKnownAtOnce(t *testing.T) {
	yes, no := node(api.TermTrue), node(api.TermFalse)
	for _, c := range []struct {
		want string
		o    api.Obligation
	}{
		{"proof", ask(yes)}, {"model", ask(no)}, {"model", ask(no, yes, yes)}, {"proof", ask(no, yes, no)}, {"proof", ask(v("p"), no)},
		{"proof", ask(and())}, {"model", ask(or())}, {"proof", ask(v("p"), or())}, {"model", ask(v("p"), and())}, {"proof", ask(or(and()))}, {"model", ask(and(or()))},
		{"proof", ask(v("p"), v("q"), v("p"))}, {"model", ask(v("p"), v("q"))}, {"model", ask(v("p"))}, {"model", ask(not(v("p")))},
		{"proof", ask(v("p"), v("q"), not(v("q")))}, {"proof", ask(or(v("p"), not(v("p"))))}, {"proof", ask(iff(v("p"), v("p")))}, {"model", ask(iff(v("p"), v("q")))},
		{"proof", ask(eq(v("l"), v("l")))}, {"model", ask(eq(v("l"), v("k")))}, {"model", ask(not(eq(v("l"), v("k"))))}, {"proof", ask(no, not(eq(v("l"), v("l"))))},
		{"proof", ask(eq(v("x"), v("x")))}, {"proof", ask(le(v("x"), v("x")))}, {"model", ask(eq(v("x"), v("y")))}, {"model", ask(le(v("x"), v("y")))},
		{"proof", ask(le(n(2), n(2)))}, {"model", ask(le(n(3), n(2)))}, {"proof", ask(no, le(n(3), n(2)))}, {"proof", ask(no, eq(n(3), n(2)))}, {"proof", ask(no, eq(n(2), n(3)))}, {"model", ask(eq(sum(), n(2)))}, {"proof", ask(eq(sum(), n(0)))},
		{"proof", ask(eq(scale(0, v("x")), sum(v("y"), scale(-1, v("y")))))},
	} {
		told(t, c.want, c.o)
	}
	for _, goal := range []api.Term{yes, no} {
		o := api.Obligation{Goal: goal}
		f, e := solver.Solve(nil, o, most)
		if w := what(t, nil, o, f); e != api.OK || w == "unknown" || (w == "proof") != (goal.Kind == api.TermTrue) {
			t.Error(w, e)
		}
	}
}

func TestTruths(t *testing.T) {
	p, q, r, s := v("p"), v("q"), v("r"), v("s")
	told(t, "proof", ask(r, or(p, q), or(not(p), r), or(not(q), r)))
	told(t, "model", ask(r, or(p, q), or(not(p), r), or(not(q), s)))
	told(t, "proof", ask(s, iff(p, q), iff(q, r), iff(r, s), p))
	told(t, "model", ask(s, iff(p, q), iff(q, r), iff(r, s)))
	told(t, "proof", ask(iff(iff(p, q), r), iff(p, iff(q, r))))
	told(t, "proof", ask(or(and(p, q), and(p, not(q)), and(not(p), q), and(not(p), not(q)))))
	told(t, "model", ask(or(and(p, q), and(p, not(q)), and(not(p), q))))
	// Disjunctions in disjunctions, of which the inner ones have more kids than the outer ones.
	told(t, "proof", ask(p, or(and(p, or(q, r, s)), and(or(and(q, p), and(r, p), and(s, p)), or(q, p)))))
	told(t, "model", ask(p, or(and(p, or(q, r, s)), and(or(q, r, s), or(q, p)))))
	told(t, "proof", ask(node(api.TermFalse), or(or(or(or())))))
	// What follows of one disjunction alone, beside many others.
	var hyps []api.Term
	for range 200 {
		hyps = append(hyps, or(p, q, r), or(not(p), q, s))
	}
	told(t, "proof", ask(s, append(hyps, or(s, and(p, not(p))))...))
}

// Cases beside which what can not be is seen are not gone through.
func TestCasesThatAreBeside(t *testing.T) {
	x, p, q := v("x"), v("p"), v("q")
	o := ask(node(api.TermFalse), or(p, q), or(not(p), le(x, n(1))), or(not(q), le(x, n(2))), or(not(p), le(n(3), x)), or(not(q), le(n(4), x)))
	for i := range int64(60) {
		name := "b" + num.Text(num.Of(i))
		o.Scope = append(o.Scope, api.Sorted{Name: name, Sort: "bool"}, api.Sorted{Name: "c" + name, Sort: "bool"})
		o.Hyps = append(o.Hyps, or(v(name), v("c"+name)))
	}
	told(t, "proof", o)
	o.Hyps[1] = or(not(p), le(x, n(3)))
	told(t, "model", o)
}

func TestData(t *testing.T) {
	k, l, m, x := v("k"), v("l"), v("m"), v("x")
	tail := func(t api.Term) api.Term { return app("cons.1", t) }
	told(t, "proof", ask(eq(k, m), eq(k, l), eq(m, l)))
	told(t, "proof", ask(eq(m, k), eq(k, l), eq(m, l)))
	told(t, "proof", ask(eq(l, k), eq(k, l)))
	told(t, "model", ask(eq(k, m), eq(k, l), not(eq(m, l))))
	told(t, "proof", ask(eq(tail(k), tail(l)), eq(k, l)))
	told(t, "model", ask(eq(k, l), eq(tail(k), tail(l))))
	told(t, "proof", ask(eq(tail(tail(tail(k))), k), eq(tail(k), l), eq(tail(l), k), eq(k, l)))
	told(t, "proof", ask(eq(tail(k), k), eq(tail(tail(tail(k))), k), eq(tail(tail(tail(tail(tail(k))))), k)))
	told(t, "model", ask(eq(tail(k), k), eq(tail(tail(tail(k))), k), eq(tail(tail(tail(tail(tail(tail(k)))))), k)))
	// Of equal data what is a number, a truth, data.
	told(t, "proof", ask(eq(app("cons.0", k), app("cons.0", l)), eq(l, m), eq(k, m)))
	told(t, "proof", ask(le(app("tag", k), x), eq(l, m), eq(k, m), le(app("tag", l), x)))
	told(t, "model", ask(le(app("tag", k), x), eq(l, m), le(app("tag", l), x)))
	told(t, "proof", ask(app("cons.2", k), eq(l, m), eq(k, m), app("cons.2", l)))
	told(t, "model", ask(app("cons.2", k), eq(l, m), app("cons.2", l)))
	told(t, "proof", ask(app("cons.2", tail(k)), eq(l, k), app("cons.2", m), eq(tail(l), m)))
	// What is not the same tells of the one kid that is left.
	told(t, "proof", ask(eq(k, m), or(eq(k, l), eq(k, m)), not(eq(tail(k), tail(l)))))
	told(t, "proof", ask(not(eq(k, l)), eq(k, m), not(eq(m, l))))
	told(t, "proof", ask(not(eq(l, k)), eq(k, m), not(eq(m, l))))
	told(t, "proof", ask(node(api.TermFalse), or(eq(l, k), eq(k, l)), eq(k, m), not(eq(m, l))))
	// Lists and trees are never one class, also where their tags are the same.
	told(t, "model", ask(eq(k, l), eq(app("tag", k), app("tag", v("t"))), eq(v("t"), v("u"))))
	told(t, "model", ask(eq(app("node.1", v("t")), app("node.1", v("u"))), not(eq(v("t"), v("u"))), eq(app("node.0", v("t")), app("node.0", v("u")))))
	// Atoms that come to nothing in their sums, or stand within others, are asked for too.
	told(t, "model", ask(v("p"), eq(k, l), le(app("tag", k), n(-7)), eq(sum(app("tag", l), scale(-1, app("tag", l))), n(0))))
	told(t, "model", ask(v("p"), eq(k, l), eq(app("tag", tail(k)), n(4)), le(scale(0, app("tag", tail(l))), n(0))))
}

func TestWholeNumbers(t *testing.T) {
	x, y, z, w, no := v("x"), v("y"), v("z"), v("w"), node(api.TermFalse)
	told(t, "proof", ask(le(x, n(-1)), le(scale(3, x), n(-1))))
	told(t, "model", ask(le(x, n(-2)), le(scale(3, x), n(-1))))
	told(t, "proof", ask(le(n(3), x), le(n(7), scale(3, x))))
	told(t, "proof", ask(no, eq(sum(scale(4, x), scale(-6, y)), n(3))))
	told(t, "model", ask(no, eq(sum(scale(4, x), scale(-6, y)), n(-2))))
	told(t, "proof", ask(no, le(n(1), sum(scale(3, x), scale(-3, y))), le(sum(scale(3, x), scale(-3, y)), n(2))))
	// Equalities that no whole numbers meet together, each of which some do.
	told(t, "proof", ask(no, eq(sum(x, y), scale(2, z)), eq(sum(x, scale(-1, y)), sum(scale(2, w), n(1)))))
	told(t, "proof", ask(no, eq(sum(x, y), scale(3, z)), le(sum(x, n(1)), sum(scale(-1, y), scale(9, w))), le(scale(9, w), sum(x, y, n(2)))))
	told(t, "model", ask(no, eq(sum(scale(6, x), scale(10, y), scale(15, z)), n(1))))
	// Held between what no whole number is, but for halves.
	told(t, "proof", ask(no, eq(sum(scale(2, x), scale(2, y)), sum(z, w)), eq(z, sum(w, n(1)))))
	told(t, "proof", ask(no, le(sum(scale(2, x), y), n(3)), le(n(2), sum(x, scale(-1, y))), le(n(0), y), le(n(-7), sum(scale(-3, x), y)), le(sum(scale(-4, y), n(5)), x)))
	told(t, "proof", ask(no, le(n(1), sum(scale(5, x), scale(-7, y))), le(sum(scale(5, x), scale(-7, y)), n(1)), le(n(4), x), le(x, n(9))))
	told(t, "model", ask(no, le(n(1), sum(scale(5, x), scale(-7, y))), le(sum(scale(5, x), scale(-7, y)), n(1)), le(n(4), x), le(x, n(10))))
	// So wide that whole numbers are there, wherever the point is: few steps do.
	wide := ask(le(sum(scale(6, x), scale(3, y), scale(5, z), scale(-2, w)), n(79)), le(sum(scale(9, x), scale(-3, y), scale(10, z), scale(7, w)), n(17)), le(sum(x, scale(-8, y), scale(7, z), scale(-9, w)), n(-90)), le(sum(scale(-2, x), scale(-8, y), scale(6, z), scale(3, w)), n(13)))
	if got := solve(t, datas(), wide, 1000); got != "model" {
		t.Error(got)
	}
	// Of a remainder, and of what was divided.
	told(t, "proof", ask(le(y, x), le(n(0), x), le(scale(3, y), x), le(x, sum(scale(3, y), n(2)))))
	told(t, "proof", ask(le(n(0), y), le(n(0), x), le(scale(3, y), x), le(x, sum(scale(3, y), n(2)))))
	told(t, "proof", ask(eq(y, n(4)), eq(x, n(13)), le(scale(3, y), x), le(x, sum(scale(3, y), n(2)))))
	told(t, "proof", ask(or(eq(x, n(1)), eq(x, n(2)), eq(x, n(3))), le(n(1), x), le(x, n(3))))
	told(t, "model", ask(or(eq(x, n(1)), eq(x, n(3))), le(n(1), x), le(x, n(3))))
	long, _ := num.Parse("123456789012345678901234567890")
	far := api.Term{Kind: api.TermNum, Num: long}
	told(t, "proof", ask(le(x, far), le(sum(x, n(1)), far)))
	told(t, "model", ask(le(sum(x, n(2)), far), le(sum(x, n(1)), far)))
}

// Where the search does not know it, it says so, and ends.
func TestFewSteps(t *testing.T) {
	o := ask(node(api.TermFalse))
	for i, a := range []string{"x", "y", "z", "w"} {
		o.Hyps = append(o.Hyps, or(eq(v(a), n(0)), eq(v(a), n(2<<i))))
	}
	o.Hyps = append(o.Hyps, eq(sum(v("x"), v("y"), v("z"), v("w")), n(7)))
	if w := solve(t, datas(), o, 1); w != "unknown" {
		t.Error(w)
	}
	told(t, "proof", o)
}
