package model

import (
	"slices"

	"whetstone/api"
	"whetstone/num"
)

// anyMany is the number of kids of kinds that may have any.
const anyMany = -1

// rule is what a part comes to, its kids being that.
type rule func(kids ...api.Value) (api.Value, api.Errno)

// work is a term at work: the part whose turn it is, and the sorts.
type work struct {
	api.Term
	sorts
	bounds []api.Bound
	met    map[string]api.Value // what names stand for that were met: a value is only once held to its sort
	rules  map[api.TermKind]rule
}

// turn is that of a part: ahead of its kids, and behind them.
type turn struct {
	part   *api.Term
	behind bool
}

func newWork(datas []api.Data, bounds []api.Bound) *work {
	w := &work{sorts: sorts{datas}, bounds: bounds, met: map[string]api.Value{}}
	// True is what an and without kids comes to, false what an or does.
	w.rules = map[api.TermKind]rule{
		api.TermVar: w.variable, api.TermNum: w.literal, api.TermTrue: w.all, api.TermFalse: w.one,
		api.TermAdd: w.sum, api.TermScale: w.scaled, api.TermApp: w.applied,
		api.TermEq: w.equal, api.TermLe: w.atMost,
		api.TermNot: w.denied, api.TermAnd: w.all, api.TermOr: w.one, api.TermIff: w.agreed,
	}
	return w
}

// value is what t comes to, in memory that may be that of others.
func (w *work) value(t api.Term) (api.Value, api.Errno) {
	var came []api.Value // what those parts came to whose term's turn is still ahead
	row := ahead[turn]{{part: &t}}
	for now := range row.each {
		w.Term = *now.part
		if !now.behind {
			if e := w.enter(); e != api.OK {
				return api.Value{}, e
			}
			row.lay(turn{now.part, true})
			for i := range slices.Backward(w.Kids) {
				row.lay(turn{part: &w.Kids[i]})
			}
			continue
		}
		first := len(came) - len(w.Kids)
		v, e := w.rules[w.Kind](came[first:]...)
		if e != api.OK {
			return api.Value{}, e
		}
		came = append(came[:first], v)
	}
	return came[0], api.OK
}

// enter asks what is asked of a part ahead of its kids.
func (w *work) enter() api.Errno {
	if w.rules[w.Kind] == nil {
		return api.ErrSort
	}
	if many := kidsOf(w.Kind); many != anyMany && many != len(w.Kids) {
		return api.ErrMany
	}
	return api.OK
}

// kidsOf is how many kids a part of that kind has.
func kidsOf(kind api.TermKind) int {
	switch kind {
	case api.TermAdd, api.TermAnd, api.TermOr:
		return anyMany
	case api.TermScale, api.TermApp, api.TermNot:
		return 1
	case api.TermEq, api.TermLe, api.TermIff:
		return 2
	}
	return 0
}

// need is api.ErrSort, unless ok.
func need(ok bool) api.Errno {
	if !ok {
		return api.ErrSort
	}
	return api.OK
}

func (w *work) variable(...api.Value) (api.Value, api.Errno) {
	if v, met := w.met[w.Name]; met {
		return v, api.OK
	}
	for _, b := range slices.Backward(w.bounds) {
		if b.Name == w.Name {
			w.met[w.Name] = b.Value
			return b.Value, need(w.some(b.Value))
		}
	}
	return api.Value{}, api.ErrName
}

func (w *work) literal(...api.Value) (api.Value, api.Errno) {
	return number(w.Num), need(num.Right(w.Num))
}

func (w *work) sum(kids ...api.Value) (api.Value, api.Errno) {
	return number(num.Add(numbers(kids...)...)), need(areAll(api.ValueInt, kids...))
}

func (w *work) scaled(kids ...api.Value) (api.Value, api.Errno) {
	return number(num.Mul(w.Num, kids[0].Num)), need(num.Right(w.Num) && areAll(api.ValueInt, kids...))
}

func (w *work) applied(kids ...api.Value) (api.Value, api.Errno) {
	v, ok := w.apply(w.Name, kids[0])
	return v, need(ok)
}

func (w *work) equal(kids ...api.Value) (api.Value, api.Errno) {
	if !areAll(api.ValueInt, kids...) && !areAll(api.ValueData, kids...) {
		return api.Value{}, api.ErrSort
	}
	return truth(Same(kids[0], kids[1])), api.OK
}

func (w *work) atMost(kids ...api.Value) (api.Value, api.Errno) {
	return truth(num.Cmp(kids[0].Num, kids[1].Num) <= 0), need(areAll(api.ValueInt, kids...))
}

func (w *work) denied(kids ...api.Value) (api.Value, api.Errno) {
	return truth(!kids[0].Truth), need(areAll(api.ValueBool, kids...))
}

// all tells whether all are; of none true.
func (w *work) all(kids ...api.Value) (api.Value, api.Errno) {
	return truth(!slices.Contains(truths(kids...), false)), need(areAll(api.ValueBool, kids...))
}

// one tells whether one is; of none false.
func (w *work) one(kids ...api.Value) (api.Value, api.Errno) {
	return truth(slices.Contains(truths(kids...), true)), need(areAll(api.ValueBool, kids...))
}

func (w *work) agreed(kids ...api.Value) (api.Value, api.Errno) {
	return truth(kids[0].Truth == kids[1].Truth), need(areAll(api.ValueBool, kids...))
}
