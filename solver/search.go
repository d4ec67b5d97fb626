package solver

import (
	"whetstone/api"
	"whetstone/proof"
)

// unit is how much of the search a step is: about the time that the status of so many literals takes.
const unit = 64

// newSearch looks for what comes of facts, pushed formulas.
func newSearch(datas []api.Data, scope []api.Sorted, steps int, facts ...api.Term) *world {
	s := &search{atoms: newAtoms(datas, scope), forms: newForms(), nodes: newNodes(), left: steps * unit}
	s.meet(facts...)
	w := newWorld(newState(s))
	w.given = s.nodesOf(facts...)
	return w
}

// run looks again and again, halving numbers more often, as long as it is left open.
func (w *world) run() api.Found {
	for w.deepest = 8; ; w.deepest *= 4 {
		told := w.look(w.given...)
		switch {
		case told.met:
			return api.Found{Met: true, Model: told.model}
		case told.out:
			return api.Found{}
		case told.tree != nil:
			return api.Found{Proof: []api.Proof{told.tree.proof(len(w.given))}}
		}
	}
}

// shows tells whether what was found is what it should be. That it is not, happens only of terms that are not clean.
func shows(datas []api.Data, o api.Obligation, f api.Found) bool {
	if len(f.Proof) > 0 {
		return proof.Check(datas, o, f.Proof[0]) == api.OK
	}
	r, ok := newReader(datas, o.Scope, f.Model)
	if !f.Met || !ok || r.holds(o.Goal) {
		return false
	}
	for _, hyp := range o.Hyps {
		if !r.holds(hyp) {
			return false
		}
	}
	return true
}
