package kind

import "whetstone/api"

// few is how many names of a scope are looked for one by one.
const few = 8

// outside is the scope in which a type stands. It may be far longer than the type, so that it is not laid out for the
// sake of a few names; for the sake of many it is, so that not each is looked for in the whole of it.
type outside struct {
	scope  []api.Sorted
	places map[string]int // of the names that were met; -1 of one that the scope has not
	whole  bool           // all names of the scope were met
}

// sort is that of a name: of one that comes twice the last one's.
func (o *outside) sort(name string) (string, bool) {
	if _, met := o.places[name]; !met && !o.whole {
		o.meet(name)
	}
	place, met := o.places[name]
	if !met || place < 0 {
		return "", false
	}
	return o.scope[place].Sort, true
}

func (o *outside) meet(name string) {
	if len(o.places) == few {
		o.whole = true
		for i, s := range o.scope {
			o.places[s.Name] = i
		}
		return
	}
	place := len(o.scope) - 1
	for place >= 0 && o.scope[place].Name != name {
		place--
	}
	o.places[name] = place
}
