package proof_test

import (
	"maps"
	"math/big"
	"math/rand"
	"slices"
	"testing"

	"whetstone/api"
	"whetstone/cong"
	"whetstone/norm"
	"whetstone/num"
	"whetstone/proof"
	"whetstone/term"
)

// Check in the words of the document, with sums reckoned by the library's numbers, and held against these.

func isRight(n api.Int) bool {
	many := len(n.Digits)
	if many == 0 {
		return !n.Neg
	}
	return n.Digits[many-1] != 0 && !slices.ContainsFunc(n.Digits, func(d uint32) bool { return d >= 1000000000 })
}

func whole(n api.Int) *big.Int {
	a, _ := new(big.Int).SetString(num.Text(n), 10)
	return a
}

// broken is the ratio, if it is right.
func broken(a api.Ratio) (*big.Rat, bool) {
	if !isRight(a.Num) || !isRight(a.Den) || len(a.Den.Digits) == 0 || a.Den.Neg {
		return nil, false
	}
	n, d := whole(a.Num), whole(a.Den)
	return new(big.Rat).SetFrac(n, d), new(big.Int).GCD(nil, nil, new(big.Int).Abs(n), d).Cmp(big.NewInt(1)) == 0
}

// line is a sum of atoms by their keys; its number has none.
type line map[string]*big.Rat

// put puts what t is a sum of into the line, so many times.
func (l line) put(t api.Term, many *big.Rat) {
	key := ""
	switch t.Kind {
	case api.TermAdd:
		for _, kid := range t.Kids {
			l.put(kid, many)
		}
		return
	case api.TermScale:
		l.put(t.Kids[0], new(big.Rat).Mul(many, new(big.Rat).SetInt(whole(t.Num))))
		return
	case api.TermNum:
		many = new(big.Rat).Mul(many, new(big.Rat).SetInt(whole(t.Num)))
	default:
		key = term.Key(t)
	}
	if l[key] == nil {
		l[key] = new(big.Rat)
	}
	l[key].Add(l[key], many)
}

// atoms are the keys of those that come other than 0 times, rising.
func (l line) atoms() []string {
	var keys []string
	for _, key := range slices.Sorted(maps.Keys(l)) {
		if key != "" && l[key].Sign() != 0 {
			keys = append(keys, key)
		}
	}
	return keys
}

func (l line) number() *big.Rat {
	if l[""] == nil {
		return new(big.Rat)
	}
	return l[""]
}

// number tells whether the world has t as one.
func (w world) number(t api.Term) bool {
	sort, e := term.Sort(w.datas, w.scope, t)
	return e == api.OK && sort == "int"
}

// sum is that of the facts at, with coefs.
func (w world) sum(facts []api.Term, at []int, coefs []api.Ratio) (line, bool) {
	l := line{}
	if len(at) != len(coefs) {
		return nil, false
	}
	for i := range at {
		many, ok := broken(coefs[i])
		if !ok || at[i] < 0 || at[i] >= len(facts) {
			return nil, false
		}
		fact := facts[at[i]]
		if !(fact.Kind == api.TermLe && many.Sign() >= 0) && !(fact.Kind == api.TermEq && w.number(fact.Kids[0])) {
			return nil, false
		}
		l.put(fact.Kids[0], many)
		l.put(fact.Kids[1], new(big.Rat).Neg(many))
	}
	return l, true
}

// cut is the line, divided and rounded.
func (l line) cut() (api.Term, bool) {
	keys := l.atoms()
	g := new(big.Int)
	for _, key := range keys {
		if !l[key].IsInt() {
			return api.Term{}, false
		}
		g.GCD(nil, nil, g, new(big.Int).Abs(l[key].Num()))
	}
	if len(keys) == 0 {
		return api.Term{}, false
	}
	read := func(n *big.Int) api.Int { a, _ := num.Parse(n.String()); return a }
	atoms := add()
	for _, key := range keys {
		atom, _ := term.Of(key)
		atoms.Kids = append(atoms.Kids, api.Term{Kind: api.TermScale, Num: read(new(big.Int).Quo(l[key].Num(), g)), Kids: []api.Term{atom}})
	}
	n := new(big.Rat).Quo(new(big.Rat).Neg(l.number()), new(big.Rat).SetInt(g))
	down := new(big.Int).Div(n.Num(), n.Denom()) // rounded down, as a Denom is above 0
	return atMost(atoms, api.Term{Kind: api.TermNum, Num: read(down)}), true
}

// onlyHas tells whether the step has no part but its kind and these.
func onlyHas(p api.Proof, parts ...string) bool {
	there := map[string]bool{
		"At": len(p.At) > 0, "Coefs": len(p.Coefs) > 0, "Name": p.Name != "", "Terms": len(p.Terms) > 0,
		"Num": p.Num.Neg || len(p.Num.Digits) > 0, "Kids": len(p.Kids) > 0,
	}
	for _, part := range parts {
		delete(there, part)
	}
	return !slices.Contains(slices.Collect(maps.Values(there)), true)
}

// lays is what each Kid of the step has laid behind the facts; ok tells whether the step is as its row says.
func (w world) lays(facts []api.Term, p api.Proof) (laid [][]api.Term, ok bool) {
	one := func(kind api.TermKind) bool {
		return len(p.At) == 1 && p.At[0] >= 0 && p.At[0] < len(facts) && facts[p.At[0]].Kind == kind
	}
	switch p.Kind {
	case api.ProofPart:
		if onlyHas(p, "At", "Kids") && one(api.TermAnd) && len(p.Kids) == 1 {
			return [][]api.Term{facts[p.At[0]].Kids}, true
		}
	case api.ProofCase:
		if onlyHas(p, "At", "Kids") && one(api.TermOr) && len(p.Kids) == len(facts[p.At[0]].Kids) {
			for _, kid := range facts[p.At[0]].Kids {
				laid = append(laid, []api.Term{kid})
			}
			return laid, true
		}
	case api.ProofLess:
		if onlyHas(p, "Terms", "Num", "Kids") && len(p.Terms) == 1 && len(p.Kids) == 2 && w.number(p.Terms[0]) && isRight(p.Num) {
			t, n := p.Terms[0], api.Term{Kind: api.TermNum, Num: p.Num}
			return [][]api.Term{{atMost(t, n)}, {atMost(add(n, number(1)), t)}}, true
		}
	case api.ProofCut:
		if sum, ok := w.sum(facts, p.At, p.Coefs); ok && onlyHas(p, "At", "Coefs", "Kids") && len(p.Kids) == 1 {
			fact, ok := sum.cut()
			return [][]api.Term{{fact}}, ok
		}
	case api.ProofFarkas:
		sum, ok := w.sum(facts, p.At, p.Coefs)
		return nil, ok && onlyHas(p, "At", "Coefs") && len(sum.atoms()) == 0 && sum.number().Sign() > 0
	case api.ProofFalse:
		return nil, onlyHas(p, "At") && one(api.TermFalse)
	}
	return w.laysMore(facts, p)
}

func (w world) laysMore(facts []api.Term, p api.Proof) (laid [][]api.Term, ok bool) {
	switch p.Kind {
	case api.ProofSame:
		if onlyHas(p, "Terms", "At", "Kids") && len(p.Terms) == 2 && len(p.Kids) == 1 {
			_, e := term.Sort(w.datas, w.scope, p.Terms[0])
			fact, e2 := cong.Same(facts, p.Terms[0], p.Terms[1], p.At...)
			return [][]api.Term{{fact}}, e == api.OK && e2 == api.OK
		}
	case api.ProofApply:
		if onlyHas(p, "At", "Name", "Kids") && len(p.At) == 1 && len(p.Kids) == 1 {
			fact, e := cong.Apply(w.datas, w.scope, facts, p.At[0], p.Name)
			return [][]api.Term{{fact}}, e == api.OK
		}
	case api.ProofClash:
		if onlyHas(p, "At") && len(p.At) == 2 && min(p.At[0], p.At[1]) >= 0 && max(p.At[0], p.At[1]) < len(facts) {
			return nil, term.Key(not(facts[p.At[0]])) == term.Key(facts[p.At[1]])
		}
	}
	return nil, false
}

// ends tells whether each step is as its row says, to the end of each Kid.
func (w world) ends(facts []api.Term, p api.Proof) bool {
	laid, ok := w.lays(facts, p)
	if !ok {
		return false
	}
	for i, kid := range p.Kids {
		if !w.ends(slices.Concat(facts, laid[i]), kid) {
			return false
		}
	}
	return true
}

// facts are those of the obligation.
func (w world) facts(o api.Obligation) ([]api.Term, api.Errno) {
	var facts []api.Term
	for i, t := range append(slices.Clone(o.Hyps), o.Goal) {
		fact, e := norm.Push(w.datas, w.scope, t, i < len(o.Hyps))
		if e != api.OK {
			return nil, e
		}
		facts = append(facts, fact)
	}
	return facts, api.OK
}

func (w world) reckon(o api.Obligation, p api.Proof) api.Errno {
	facts, e := w.facts(o)
	if e == api.OK && !w.ends(facts, p) {
		return api.ErrProof
	}
	return e
}

// steps counts the kinds of the steps.
func steps(many map[api.ProofKind]int, p api.Proof) {
	many[p.Kind]++
	for _, kid := range p.Kids {
		steps(many, kid)
	}
}

// asReckoned fails, unless Check tells of it what the words do, which is told.
func (w world) asReckoned(t *testing.T, o api.Obligation, p api.Proof) api.Errno {
	t.Helper()
	want := w.reckon(o, p)
	if e := proof.Check(w.datas, o, p); e != want {
		t.Fatal(e, "is not", want, shorts(o.Hyps...), short(o.Goal), brief(p))
	}
	return want
}

func TestCheckIsAsTheWordsSay(t *testing.T) {
	t.Parallel()
	r := rand.New(rand.NewSource(1))
	for _, w := range []world{trees(), odds()} {
		many, spoilt, kinds := map[api.Errno]int{}, map[api.Errno]int{}, map[api.ProofKind]int{}
		for range 2000 {
			o := w.someObligation(r)
			p, _ := w.prove(r, o, 6)
			e := w.asReckoned(t, o, p)
			many[e]++
			if e == api.OK {
				steps(kinds, p)
			}
			for range 4 {
				if bad := w.asReckoned(t, o, spoil(r, p)); e == api.OK {
					spoilt[bad]++
				}
			}
		}
		for kind := api.ProofPart; kind <= api.ProofFarkas; kind++ {
			if kinds[kind] < 25 {
				t.Error(kind, kinds)
			}
		}
		if many[api.OK] < 1000 || many[api.ErrProof] < 500 || many[api.ErrName] < 10 || many[api.ErrSort] < 20 || spoilt[api.OK] < 400 || spoilt[api.ErrProof] < 3000 {
			t.Error(many, spoilt)
		}
	}
}

// someJunk is a certificate of whatever parts.
func someJunk(r *rand.Rand, size int) api.Proof {
	w := trees()
	p := api.Proof{Kind: api.ProofKind(r.Intn(12))}
	for range r.Intn(3) {
		p.At = append(p.At, pick(r, 0, 1, 2, 3, 4, 5, -1, most, -most-1, len(p.At)))
	}
	for range pick(r, 0, len(p.At), r.Intn(3)) {
		p.Coefs = append(p.Coefs, pick(r, append(wrongRatios(), times("1", "-1", "1/2", "0")...)...))
	}
	for range pick(r, 0, 0, 1, 2, 3) {
		p.Terms = append(p.Terms, pick(r, w.some(r, "int", 2), w.some(r, "tree", 2), name("none"), api.Term{}, app("tag"), yes(), kids(noKind), laden(name("n"))))
	}
	p.Name = pick(r, "", "", "tag", "FORK.1", "none")
	p.Num = pick(r, append(wrongInts(), num.Of(0), num.Of(0), num.Of(5))...)
	for range r.Intn(size + 1) {
		p.Kids = append(p.Kids, someJunk(r, size-1))
	}
	return p
}

func TestJunkIsAsTheWordsSay(t *testing.T) {
	r := rand.New(rand.NewSource(2))
	w, many := trees(), map[api.Errno]int{}
	for range 4000 {
		o := w.obliged(no(), w.formula(r, 2), and(name("p"), no()), or(name("q"), no()), equals(name("s"), name("t")), atMost(name("n"), number(3)))
		p := someJunk(r, 2)
		if r.Intn(2) == 0 {
			p = pick(r, part(1, p), split(name("n"), 2, farkas(places(4), "0"), p), cases(2, p, p), same(name("s"), name("t"), places(3), p), part(1, falsehood(7)))
		}
		many[w.asReckoned(t, o, p)]++
	}
	if many[api.OK] < 100 || many[api.ErrProof] < 2500 {
		t.Error(many)
	}
}
