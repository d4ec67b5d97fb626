package tree

import "whetstone/api"

// copier makes what it goes through anew, as it is.
type copier struct{ walker }

func (c *copier) atom(a *api.Atom) {
	a.Num = ownInt(a.Num)
}

func (c *copier) term(t *api.Term) {
	*t = ownTerm(*t)
}

func (c *copier) program(p *api.Program) {
	p.Datas, p.Kappas, p.Funs, p.Proofs = own(p.Datas), own(p.Kappas), own(p.Funs), own(p.Proofs)
	c.next(each(c.data, p.Datas)...)
	c.next(each(c.kappa, p.Kappas)...)
	c.next(each(c.fun, p.Funs)...)
	c.next(each(c.proof, p.Proofs)...)
}

func (c *copier) data(d *api.Data) {
	d.Cons = own(d.Cons)
	for i := range d.Cons {
		d.Cons[i].Fields = own(d.Cons[i].Fields)
	}
}

func (c *copier) kappa(k *api.Kappa) {
	k.Params = own(k.Params)
	c.term(&k.Body)
}

func (c *copier) fun(f *api.Fun) {
	f.Params = own(f.Params)
	c.next(c.under(f.Params, func() { c.kind(&f.Result) }, func() { c.expr(&f.Body) })...)
}

func (c *copier) proof(p *api.Proof) {
	p.At, p.Coefs, p.Terms, p.Kids, p.Num = own(p.At), own(p.Coefs), own(p.Terms), own(p.Kids), ownInt(p.Num)
	for i, r := range p.Coefs {
		p.Coefs[i] = api.Ratio{Num: ownInt(r.Num), Den: ownInt(r.Den)}
	}
	for i := range p.Terms {
		c.term(&p.Terms[i])
	}
	c.next(each(c.proof, p.Kids)...)
}
