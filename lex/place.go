package lex

import "whetstone/api"

// fault is what is thrown where a text can not be read on: the place, and what is wrong there.
type fault struct {
	at    int
	errno api.Errno
}

// place is where one stands in a text.
type place struct {
	text string
	at   int
}

func (p *place) over() bool { return p.at == len(p.text) }

func (p *place) here() byte { return p.text[p.at] }

func (p *place) onward() { p.at++ }

// past goes past the bytes of which is holds, as many as stand together, and tells them.
func (p *place) past(is func(b byte) bool) string {
	from := p.at
	for !p.over() && is(p.here()) {
		p.onward()
	}
	return p.text[from:p.at]
}

// need throws the error, unless ok, at the place where one stands.
func (p *place) need(ok bool, e api.Errno) {
	if !ok {
		panic(fault{p.at, e})
	}
}
