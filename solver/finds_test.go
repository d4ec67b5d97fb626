package solver_test

import (
	"math/rand"
	"testing"

	"whetstone/api"
	"whetstone/norm"
	"whetstone/num"
	"whetstone/term"
)

// P12.3: what is found, is held against the chapter's words where it is told (what).

// known asks for obligations that must be known, so that each end comes at least so often.
func known(t *testing.T, many, atLeast int, next func(g chance) (api.Obligation, bool)) {
	t.Helper()
	count := map[string]int{}
	for i := 0; count["proof"]+count["model"] < many; i++ {
		o, ok := next(chance{rand.New(rand.NewSource(int64(i)))})
		if !ok {
			continue
		}
		w := solve(t, datas(), o, most)
		if w == "unknown" {
			t.Fatalf("unknown: %s", show(o))
		}
		count[w]++
	}
	if count["proof"] < atLeast || count["model"] < atLeast {
		t.Error(count)
	}
}

// pushedSize is that of an obligation's facts; false, if one is refused.
func pushedSize(o api.Obligation) (int, bool) {
	size := 0
	for i, f := range append([]api.Term{o.Goal}, o.Hyps...) {
		p, e := norm.Push(datas(), o.Scope, f, i > 0)
		if e != api.OK {
			return 0, false
		}
		size += term.Size(p)
	}
	return size, true
}

func (g chance) truthOf(parts int) api.Term {
	switch {
	case parts < 3 || parts < 8 && g.Intn(4) == 0:
		return g.literal(false)
	case parts < 6 && g.Intn(2) == 0:
		return eq(v(pick(g.Rand, "k", "l", "m", "n")), v(pick(g.Rand, "k", "l", "m", "n")))
	}
	half := 1 + g.Intn(parts-2)
	a, b := g.truthOf(half), g.truthOf(parts-1-half)
	switch g.Intn(6) {
	case 0:
		return and(a, b)
	case 1, 2:
		return or(a, b)
	case 3:
		return not(a)
	}
	return iff(a, b)
}

func TestFindsWithoutNumbers(t *testing.T) {
	t.Parallel()
	for _, rows := range []int{1, 3, 6} {
		known(t, 1500, 60, func(g chance) (api.Obligation, bool) {
			o := ask(g.truthOf(30 / rows))
			for range rows - 1 {
				o.Hyps = append(o.Hyps, g.truthOf(30/rows))
			}
			size, ok := pushedSize(o)
			return o, ok && size <= 400 && term.Size(append(o.Hyps, o.Goal)...) <= 30
		})
	}
}

// All of eight truths, or of an odd number of them: what follows is seen only where each is so, or not.
func TestFindsParities(t *testing.T) {
	p := []api.Term{v("p"), v("q"), v("r"), v("s"), eq(v("k"), v("l")), eq(v("l"), v("m"))}
	tree := func(l ...api.Term) api.Term {
		return iff(iff(l[0], l[1]), iff(iff(l[2], l[3]), iff(l[4], l[5])))
	}
	odd := []api.Term{p[4], p[1], p[3], p[0], p[5], p[2]}
	told(t, "proof", ask(tree(p...), tree(odd...)))
	odd[2] = not(odd[2])
	told(t, "model", ask(tree(p...), tree(odd...)))
	odd[5] = not(odd[5])
	told(t, "proof", ask(tree(p...), tree(odd...)))
}

func (g chance) side(names ...string) api.Term {
	if g.Intn(3) == 0 {
		return n(g.Int63n(7) - 3)
	}
	return v(pick(g.Rand, names...))
}

func (g chance) row(side func() api.Term) api.Term {
	a, b := side(), side()
	if g.Intn(4) == 0 {
		return eq(a, b)
	}
	return le(a, b)
}

func TestFindsOfTwoNames(t *testing.T) {
	t.Parallel()
	known(t, 2000, 200, func(g chance) (api.Obligation, bool) {
		side := func() api.Term { return g.side("x", "y", "z", "w") }
		o := ask(g.row(side))
		for range 4 + g.Intn(4) {
			o.Hyps = append(o.Hyps, g.row(side))
		}
		return o, true
	})
	// Data is beside the numbers.
	known(t, 500, 50, func(g chance) (api.Obligation, bool) {
		o := ask(g.row(func() api.Term { return g.side("x", "y") }))
		for range 6 {
			if g.Intn(2) == 0 {
				o.Hyps = append(o.Hyps, eq(v(pick(g.Rand, "k", "l")), v(pick(g.Rand, "l", "m"))))
			} else {
				o.Hyps = append(o.Hyps, g.row(func() api.Term { return g.side("x", "y") }))
			}
		}
		if g.Intn(2) == 0 {
			o.Goal = eq(v("k"), v(pick(g.Rand, "l", "m")))
		}
		return o, true
	})
}

func TestFindsOfOneKey(t *testing.T) {
	t.Parallel()
	for _, key := range []api.Term{v("x"), app("tag", v("l")), app("cons.0", app("cons.1", v("l")))} {
		for _, most := range []int64{2, 10, 1 << 40} {
			known(t, 250, 40, func(g chance) (api.Obligation, bool) {
				side := func() api.Term {
					some := sum(scale(g.Int63n(2*most+1)-most, key), n(g.Int63n(4*most+1)-2*most))
					if g.Intn(3) == 0 {
						some = scale(g.Int63n(5)-2, sum(some, key))
					}
					return some
				}
				o := ask(g.row(side))
				for range g.Intn(8) {
					o.Hyps = append(o.Hyps, g.row(side))
				}
				return o, true
			})
		}
	}
}

// Every number from one to the other is asked for, or is the only one that may be.
func TestFindsOfOneKeyAtTheEdges(t *testing.T) {
	x := v("x")
	for by := int64(1); by < 6; by++ {
		for low := int64(-7); low < 8; low++ {
			for wide := range int64(7) {
				between := []api.Term{le(n(low), scale(by, x)), le(scale(by, x), n(low+wide))}
				first := low + ((-low)%by+by)%by
				if first > low+wide {
					told(t, "proof", ask(node(api.TermFalse), between...))
					continue
				}
				told(t, "model", ask(node(api.TermFalse), between...))
				told(t, "proof", ask(le(n(first/by), x), between...))
				told(t, "model", ask(le(n(first/by+1), x), between...))
				if first+by > low+wide {
					told(t, "proof", ask(eq(x, n(first/by)), between...))
				} else {
					told(t, "model", ask(eq(x, n(first/by)), between...))
				}
			}
		}
	}
}

// shows asks for a certificate, as a case does that has one without cuts.
func shows(t *testing.T, o api.Obligation) {
	t.Helper()
	if parts := term.Size(append(o.Hyps, o.Goal)...); parts > 400 {
		t.Fatal(parts)
	}
	told(t, "proof", o)
}

// numbers brings so many names of numbers into a scope.
func numbers(o *api.Obligation, many int) []api.Term {
	var l []api.Term
	for i := range many {
		name := "v" + num.Text(num.Of(int64(i)))
		o.Scope = append(o.Scope, api.Sorted{Name: name, Sort: "int"})
		l = append(l, v(name))
	}
	return l
}

// Of a sum that no choice comes to: each of 512 must be gone.
func TestFindsAmongManyCases(t *testing.T) {
	t.Parallel()
	o := ask(node(api.TermFalse))
	l := numbers(&o, 9)
	for i, x := range l {
		o.Hyps = append(o.Hyps, or(eq(x, n(0)), eq(x, n(2<<i))))
	}
	o.Hyps = append(o.Hyps, eq(sum(l...), n(301)))
	shows(t, o)
	// As many, with a long row of names that hang together with one.
	last := l[8]
	for i := range 100 {
		o.Scope = append(o.Scope, api.Sorted{Name: "c" + num.Text(num.Of(int64(i))), Sort: "int"})
		next := v(o.Scope[len(o.Scope)-1].Name)
		o.Hyps = append(o.Hyps, le(last, next))
		last = next
	}
	o.Hyps = append(o.Hyps, le(last, l[8]))
	shows(t, o)
}

// As many, with long rows beside, in which all names come: each case moves them all.
func TestFindsAmongCasesWithLongRows(t *testing.T) {
	t.Parallel()
	for _, long := range []int{3, 6, 10} {
		g := chance{rand.New(rand.NewSource(int64(long)))}
		o := ask(node(api.TermFalse))
		l := numbers(&o, 40)
		for i, x := range l[:9] {
			o.Hyps = append(o.Hyps, or(eq(x, n(0)), eq(x, n(2<<i))))
		}
		o.Hyps = append(o.Hyps, eq(sum(l[:9]...), n(301)))
		for {
			var parts []api.Term
			for range long {
				parts = append(parts, scale(g.Int63n(9)-4, pick(g.Rand, l...)))
			}
			row := le(sum(parts...), n(g.Int63n(4000)-300))
			if term.Size(append(o.Hyps, o.Goal, row)...) > 400 {
				break
			}
			o.Hyps = append(o.Hyps, row)
		}
		shows(t, o)
	}
}

// Each case makes deep functions of other data the same, one way or the other.
func TestFindsAmongCasesOfDeepFunctions(t *testing.T) {
	t.Parallel()
	o := ask(node(api.TermFalse))
	l := numbers(&o, 9)
	lists := []api.Term{v("k"), v("l"), v("m"), v("n")}
	deep := [2]api.Term{lists[0], lists[3]}
	for i := range deep {
		for range 80 {
			deep[i] = app("cons.1", deep[i])
		}
	}
	for i, x := range l {
		a, b := lists[i%3], lists[i%3+1]
		o.Hyps = append(o.Hyps, or(and(eq(a, b), eq(x, n(0))), and(eq(b, a), eq(x, n(2<<i)))))
	}
	o.Hyps = append(o.Hyps, eq(sum(append(l, app("tag", deep[0]), scale(-1, app("tag", deep[1])))...), n(301)))
	shows(t, o)
}

func TestFindsAmongWideCases(t *testing.T) {
	t.Parallel()
	o := ask(node(api.TermFalse))
	l := numbers(&o, 2)
	for _, x := range l {
		var row []api.Term
		for i := range int64(31) {
			row = append(row, eq(x, n(10*i)))
		}
		o.Hyps = append(o.Hyps, or(row...))
	}
	o.Hyps = append(o.Hyps, eq(sum(l...), n(155)))
	shows(t, o)
	// Disjunctions within disjunctions.
	o = ask(node(api.TermFalse))
	l = numbers(&o, 3)
	var row []api.Term
	for i := range int64(5) {
		row = append(row, and(le(n(i), l[0]), or(le(sum(l[0], n(1)), l[1]), le(sum(l[0], n(2)), l[2]))))
	}
	o.Hyps = []api.Term{or(row...), le(l[1], n(-9)), or(le(l[2], n(-3)), le(l[2], l[1]))}
	shows(t, o)
}

// A certificate that is made by chance: facts that follow by sums alone, or by equal data.
func TestFindsOfSums(t *testing.T) {
	t.Parallel()
	for i := range 300 {
		g := chance{rand.New(rand.NewSource(int64(i)))}
		o := ask(node(api.TermFalse))
		l := numbers(&o, 3+g.Intn(8))
		// The last row is what the others leave, so many times, to a number above 0.
		total := make([]int64, len(l))
		left := int64(0)
		for range 1 + g.Intn(8) {
			times := 1 + g.Int63n(3)
			var parts []api.Term
			for j, x := range l {
				if c := g.Int63n(7) - 3; g.Intn(2) == 0 {
					parts = append(parts, scale(c, x))
					total[j] += times * c
				}
			}
			most := g.Int63n(21) - 10
			left += times * most
			o.Hyps = append(o.Hyps, le(sum(parts...), n(most)))
		}
		var parts []api.Term
		for j, x := range l {
			parts = append(parts, scale(-total[j], x))
		}
		o.Hyps = append(o.Hyps, le(n(left+1), scale(-1, sum(parts...))))
		told(t, "proof", o)
		o.Goal = o.Hyps[len(o.Hyps)-1]
		o.Hyps = o.Hyps[:len(o.Hyps)-1]
		o.Goal = not(o.Goal)
		told(t, "proof", o)
	}
}

// Functions of what is the same, one of the other, in sums.
func TestFindsOfFunctions(t *testing.T) {
	deep := func(many int, t api.Term) api.Term {
		for range many {
			t = app("cons.1", t)
		}
		return t
	}
	for _, many := range []int{1, 2, 10, 40} {
		k, l, m := v("k"), v("l"), v("m")
		shows(t, ask(le(app("tag", deep(many, k)), app("tag", deep(many, m))), eq(k, l), eq(m, l)))
		shows(t, ask(eq(l, deep(2*many, l)), eq(l, deep(many, l))))
		shows(t, ask(eq(l, deep(1, l)), eq(l, deep(many+1, l)), eq(l, deep(many, l))))
		shows(t, ask(le(n(3), sum(app("tag", deep(many, k)), app("cons.0", deep(many, k)))), or(eq(k, l), eq(k, m)), le(n(1), app("tag", deep(many, l))), le(n(2), app("cons.0", deep(many, l))), eq(app("tag", deep(many, m)), n(1)), eq(n(2), app("cons.0", deep(many, m)))))
	}
}

// All else is found, or not; what is told is so. Of such as these all is found.
func TestFindsOfAllKinds(t *testing.T) {
	t.Parallel()
	known(t, 1000, 150, func(g chance) (api.Obligation, bool) { return g.asked(g.Intn(8), true), true })
	known(t, 1000, 150, func(g chance) (api.Obligation, bool) { return g.asked(g.Intn(8), false), true })
}

func (g chance) dense(most int64) api.Term {
	var l []api.Term
	for _, name := range []string{"x", "y", "z", "w"} {
		l = append(l, scale(g.Int63n(2*most+1)-most, v(name)))
	}
	l = append(l, n(g.Int63n(20*most+1)-10*most))
	if g.Intn(6) == 0 {
		return eq(sum(l...), n(0))
	}
	return le(sum(l...), n(0))
}

func TestFindsOfWholeNumbers(t *testing.T) {
	t.Parallel()
	for _, most := range []int64{2, 5, 10} {
		known(t, 200, 40, func(g chance) (api.Obligation, bool) {
			o := ask(g.dense(most))
			for range 4 + g.Intn(5) {
				o.Hyps = append(o.Hyps, g.dense(most))
			}
			return o, true
		})
	}
}
