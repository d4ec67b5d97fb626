package term

import (
	"strconv"
	"strings"

	"whetstone/api"
)

// least is how long the shortest Key is.
const least = len("0 0:  0;")

// appendHead lays what a part's Key has ahead of those of its kids behind text.
func appendHead(text []byte, part *api.Term) []byte {
	text = strconv.AppendInt(text, int64(part.Kind), 10)
	text = append(text, ' ')
	text = strconv.AppendInt(text, int64(len(part.Name)), 10)
	text = append(text, ':')
	text = append(text, part.Name...)
	text = append(text, ' ')
	if part.Num.Neg {
		text = append(text, '-')
	}
	for _, digit := range part.Num.Digits {
		text = strconv.AppendUint(text, uint64(digit), 10)
		text = append(text, '.')
	}
	text = append(text, ' ')
	text = strconv.AppendInt(text, int64(len(part.Kids)), 10)
	return append(text, ';')
}

// reader reads a Key. What may not be there is thrown as api.ErrSyntax.
type reader struct {
	left string // what is not read yet
	due  int    // how many Keys are still to come
}

// read reads what a part's Key has ahead of those of its kids, and lays room for these into the part.
func (r *reader) read(part *api.Term) {
	part.Kind = api.TermKind(r.number(" ", 8))
	part.Name = r.cut(r.number(":", 62))
	r.skip(" ")
	part.Num = r.digits()
	kids := int(r.number(";", 62))
	r.due += kids - 1
	// A Key that is too short for so many is none: so the room is never much more than the text's own.
	if r.due > len(r.left)/least {
		panic(api.ErrSyntax)
	}
	if kids > 0 {
		part.Kids = make([]api.Term, kids)
	}
}

// number reads a number of so many bits at most, decimal, and the sign behind it.
func (r *reader) number(sign string, bits int) uint64 {
	text, left, found := strings.Cut(r.left, sign)
	n, err := strconv.ParseUint(text, 10, bits)
	if !found || err != nil || strconv.FormatUint(n, 10) != text {
		panic(api.ErrSyntax)
	}
	r.left = left
	return n
}

// cut reads n bytes, whatever they are.
func (r *reader) cut(n uint64) string {
	if n > uint64(len(r.left)) {
		panic(api.ErrSyntax)
	}
	text := r.left[:n]
	r.left = r.left[n:]
	return text
}

// digits reads a number's digits, right or not, each with a point behind it, up to a blank.
func (r *reader) digits() api.Int {
	var n api.Int
	r.left, n.Neg = strings.CutPrefix(r.left, "-")
	for !strings.HasPrefix(r.left, " ") {
		n.Digits = append(n.Digits, uint32(r.number(".", 32)))
	}
	r.skip(" ")
	return n
}

// skip reads that text.
func (r *reader) skip(text string) {
	left, found := strings.CutPrefix(r.left, text)
	if !found {
		panic(api.ErrSyntax)
	}
	r.left = left
}

// end needs nothing left.
func (r *reader) end() {
	if r.left != "" {
		panic(api.ErrSyntax)
	}
}
