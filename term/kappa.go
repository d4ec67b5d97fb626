package term

import (
	"slices"

	"whetstone/api"
)

// frame is a kappa, and how its body grows by what is put in.
type frame struct {
	api.Kappa
	places map[string]int // of the parameters
	nested bool           // a kappa is part of the body
	stay   int            // how many parts of the body stay there
	uses   []int          // how often each parameter's kid comes in
}

func framed(k api.Kappa) *frame {
	names := make([]string, len(k.Params))
	for i, p := range k.Params {
		names[i] = p.Name
	}
	f := &frame{Kappa: k, places: places(names...), uses: make([]int, len(names))}
	each(func(part *api.Term) { f.nested = f.nested || part.Kind == api.TermKappa }, k.Body)
	var w walker
	var do func(part *api.Term)
	do = func(part *api.Term) {
		if place, named := f.places[part.Name]; named && part.Kind == api.TermVar {
			f.uses[place]++
			return
		}
		f.stay++
		w.into(do, part.Kids...)
	}
	w.into(do, k.Body)
	w.run()
	return f
}

// size is how many parts the body has, kids of these sizes being put in.
func (f *frame) size(kids ...int) int {
	if len(kids) != len(f.uses) {
		panic(api.ErrMany)
	}
	need(!f.nested)
	var c count
	c.more(f.stay)
	for i, n := range kids {
		c.more(f.uses[i] * n)
	}
	return c.parts
}

// gauge finds how many parts a term would have with its kappas opened. Nothing is made yet, since errors may be ahead of
// a term that is too great, and a kid that is too great may come in nowhere.
type gauge struct {
	gatherer[int]
	kappas []api.Kappa
	frames map[string]*frame // of the kappas that were met
}

// measure throws the first error that comes of a kappa in t, and tells the frames of all.
func measure(kappas []api.Kappa, t *api.Term) map[string]*frame {
	g := gauge{kappas: kappas, frames: map[string]*frame{}}
	g.gather(t, func(*api.Term) {}, g.leave)
	return g.frames
}

func (g *gauge) leave(part *api.Term, kids ...int) int {
	if part.Kind == api.TermKappa {
		return g.frame(part.Name).size(kids...)
	}
	sum := 1
	for _, n := range kids {
		sum += n
	}
	// What is too great is too great wherever it comes in, and how much so is of no account: so no product runs over.
	return min(sum, api.MaxTerm+1)
}

func (g *gauge) frame(name string) *frame {
	if g.frames[name] == nil {
		i := slices.IndexFunc(g.kappas, func(k api.Kappa) bool { return k.Name == name })
		if i < 0 {
			panic(api.ErrName)
		}
		g.frames[name] = framed(g.kappas[i])
	}
	return g.frames[name]
}

// opener makes a term with its kappas opened, from the outside in: a kid is only made where it comes in.
type opener struct {
	maker
	frames map[string]*frame
}

func (o *opener) open(part *api.Term) {
	if part.Kind != api.TermKappa {
		o.keep(part, o.open)
		return
	}
	f, kids := o.frames[part.Name], part.Kids
	*part = f.Body
	o.put(f.places, kids, o.open)(part)
}
