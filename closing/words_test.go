package closing_test

import (
	"math/rand"
	"slices"
	"testing"

	"whetstone/api"
	"whetstone/cong"
	"whetstone/term"
)

// Paths, apps and Close in the words of the document, and Close held against these.

// ends are the Keys of an edge's kids; none, of a fact that is no edge.
type ends struct {
	edge bool
	a, b string
}

// graph are facts, as far as paths go.
type graph []ends

func newGraph(facts ...api.Term) graph {
	var g graph
	for _, fact := range facts {
		if fact.Kind == api.TermEq && len(fact.Kids) == 2 {
			g = append(g, ends{true, term.Key(fact.Kids[0]), term.Key(fact.Kids[1])})
		} else {
			g = append(g, ends{})
		}
	}
	return g
}

// way is a row of places, and where one stands behind them.
type way struct {
	at   []int
	here string
}

// path goes all ways at once, place by place: the shorter ones first, of as long ones the least first. Where one has
// been before, no way has to go on.
func (g graph) path(a, b api.Term) ([]int, bool) {
	been := []string{term.Key(a)}
	ways := []way{{nil, term.Key(a)}}
	for len(ways) > 0 {
		var longer []way
		for _, w := range ways {
			if w.here == term.Key(b) {
				return w.at, true
			}
			for i, e := range g {
				next := e.b
				if w.here == e.b {
					next = e.a
				}
				if !e.edge || w.here != e.a && w.here != e.b || slices.Contains(been, next) {
					continue
				}
				been = append(been, next)
				longer = append(longer, way{append(slices.Clone(w.at), i), next})
			}
		}
		ways = longer
	}
	return nil, false
}

func reckonApps(facts ...api.Term) []api.Term {
	var apps []api.Term
	var into func(l []api.Term)
	into = func(l []api.Term) {
		for _, t := range l {
			into(t.Kids)
			met := slices.ContainsFunc(apps, func(a api.Term) bool { return term.Key(a) == term.Key(t) })
			if t.Kind == api.TermApp && len(t.Kids) == 1 && !met {
				apps = append(apps, t)
			}
		}
	}
	into(facts)
	return apps
}

// took are two apps that were taken, by their places.
type took struct{ first, second int }

// due tells whether that pair is due among the facts.
func (w world) due(g graph, a, b api.Term, pair took, taken []took) bool {
	if a.Name != b.Name || term.Key(a.Kids[0]) == term.Key(b.Kids[0]) {
		return false
	}
	if _, ok := g.path(a.Kids[0], b.Kids[0]); !ok {
		return false
	}
	told, e := cong.Apply(w.datas, w.scope, []api.Term{equals(a.Kids[0], b.Kids[0])}, 0, a.Name)
	if e != api.OK {
		return false
	}
	if told.Kind == api.TermEq {
		_, ok := g.path(a, b)
		return !ok
	}
	return !slices.Contains(taken, pair)
}

// firstDue is the first pair that is due.
func (w world) firstDue(facts, apps []api.Term, taken []took) (took, bool) {
	g := newGraph(facts...)
	for i := range apps {
		for j := i + 1; j < len(apps); j++ {
			if w.due(g, apps[i], apps[j], took{i, j}, taken) {
				return took{i, j}, true
			}
		}
	}
	return took{}, false
}

func (w world) reckon(facts ...api.Term) ([]api.Proof, []api.Term, api.Errno) {
	for _, fact := range facts {
		sort, e := term.Sort(w.datas, w.scope, fact)
		if e != api.OK {
			return nil, nil, e
		}
		if sort != "bool" {
			return nil, nil, api.ErrSort
		}
	}
	var steps []api.Proof
	var taken []took
	apps := reckonApps(facts...)
	for {
		pair, ok := w.firstDue(facts, apps, taken)
		if !ok {
			return steps, facts, api.OK
		}
		taken = append(taken, pair)
		a, b, f := apps[pair.first].Kids[0], apps[pair.second].Kids[0], apps[pair.first].Name
		path, _ := newGraph(facts...).path(a, b)
		at := path[0]
		if len(path) > 1 {
			steps = append(steps, stepSame(a, b, path...))
			at = len(facts)
			facts = append(facts, equals(a, b))
		}
		told, _ := cong.Apply(w.datas, w.scope, facts, at, f)
		steps = append(steps, stepApply(at, f))
		facts = append(facts, told)
		if term.Size(facts...) > api.MaxSize {
			return nil, nil, api.ErrGrown
		}
	}
}

// asReckoned fails, unless Close tells of the facts what the words do, which is told.
func (w world) asReckoned(t *testing.T, facts ...api.Term) ([]api.Proof, []api.Term, api.Errno) {
	t.Helper()
	steps, all, e := w.reckon(slices.Clone(facts)...)
	w.tells(t, facts, steps, all, e)
	return steps, all, e
}

func TestCloseIsAsTheWordsSay(t *testing.T) {
	t.Parallel()
	r := rand.New(rand.NewSource(4))
	for _, w := range []world{trees(), odds()} {
		kinds, laid, most := map[api.ProofKind]int{}, map[api.TermKind]int{}, 0
		for range 400 {
			facts := w.facts(r, r.Intn(30))
			steps, all, e := w.asReckoned(t, facts...)
			if e != api.OK {
				t.Fatal(e)
			}
			for i, step := range steps {
				kinds[step.Kind]++
				if step.Kind == api.ProofApply {
					laid[all[len(facts)+i].Kind]++
				}
			}
			most = max(most, len(steps))
		}
		if kinds[api.ProofSame] < 200 || kinds[api.ProofApply] < 400 || laid[api.TermEq] < 300 || laid[api.TermAnd] < 80 || most < 10 {
			t.Error(kinds, laid, most)
		}
	}
}

// burdened is t, in some of whose parts stands what their kinds do not name: in the same ones each time. Functions to
// numbers and to data have none: pairs of these would be due for ever.
func (w world) burdened(t api.Term) api.Term {
	t.Kids = slices.Clone(t.Kids)
	for i := range t.Kids {
		t.Kids[i] = w.burdened(t.Kids[i])
	}
	_, to, _ := term.Function(w.datas, t.Name)
	heavy := len(term.Key(t))%4 == 0
	if heavy && (t.Kind != api.TermApp || to == "bool") && t.Kind != api.TermNum && t.Kind != api.TermScale {
		return laden(t)
	}
	return t
}

func TestCloseOfTermsWithMoreIsAsTheWordsSay(t *testing.T) {
	t.Parallel()
	r := rand.New(rand.NewSource(5))
	w, many := trees(), map[api.TermKind]int{}
	for range 350 {
		facts := w.facts(r, 2+r.Intn(24))
		for i := range facts {
			if r.Intn(4) > 0 {
				facts[i] = w.burdened(facts[i])
			}
		}
		_, all, e := w.asReckoned(t, facts...)
		if e != api.OK {
			t.Fatal(e)
		}
		for _, fact := range all[len(facts):] {
			many[fact.Kind]++
		}
	}
	if many[api.TermEq] < 500 || many[api.TermAnd] < 50 {
		t.Error(many)
	}
}

// spoilt is a fact in which a part is another one.
func spoilt(r *rand.Rand, t api.Term) api.Term {
	if len(t.Kids) > 0 && r.Intn(4) > 0 {
		t.Kids = slices.Clone(t.Kids)
		i := r.Intn(len(t.Kids))
		t.Kids[i] = spoilt(r, t.Kids[i])
		return t
	}
	return pick(r, name("none"), name("n"), name("s"), name("o"), name("p"), app("none", t), app("tag", t), not(t, t), add(t), kids(api.TermKappa, t), kids(noKind), api.Term{}, equals(t), api.Term{Kind: api.TermNum, Num: api.Int{Neg: true}})
}

func TestWrongFactsAreAsTheWordsSay(t *testing.T) {
	r := rand.New(rand.NewSource(6))
	many := map[api.Errno]int{}
	for range 4000 {
		w := pick(r, trees, odds)()
		facts := w.facts(r, 1+r.Intn(5))
		for range 1 + r.Intn(2) {
			i := r.Intn(len(facts))
			facts[i] = spoilt(r, facts[i])
		}
		if r.Intn(8) == 0 {
			w.scope = w.scope[:r.Intn(len(w.scope))]
		}
		if r.Intn(8) == 0 {
			w.datas = w.datas[r.Intn(len(w.datas)):]
		}
		_, _, e := w.asReckoned(t, facts...)
		many[e]++
	}
	if many[api.OK] < 100 || many[api.ErrName] < 300 || many[api.ErrSort] < 1000 || many[api.ErrMany] < 300 {
		t.Error(many)
	}
}
