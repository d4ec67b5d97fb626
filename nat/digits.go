package nat

import (
	"cmp"
	"strconv"
	"strings"

	"whetstone/api"
)

// width is how many decimal places one digit has: api.Base is 10 to its power.
const width = 9

// digits is a right row, in memory of its own.
type digits []uint32

// carried makes any row right; what a digit has above api.Base goes into the next one.
func carried(a []uint32) digits {
	d := make(digits, 0, len(a)+1)
	var carry uint64
	for _, x := range a {
		carry += uint64(x)
		d = append(d, uint32(carry%api.Base))
		carry /= api.Base
	}
	return append(d, uint32(carry)).stripped()
}

// stripped is d without the noughts behind; nil, if nothing is left.
func (d digits) stripped() digits {
	n := len(d)
	for n > 0 && d[n-1] == 0 {
		n--
	}
	if n == 0 {
		return nil
	}
	return d[:n]
}

func (d digits) none() bool {
	return len(d) == 0
}

// at is the digit at place i; behind the last one all are 0.
func (d digits) at(i int) uint64 {
	if i >= len(d) {
		return 0
	}
	return uint64(d[i])
}

// compare needs both rows right: only then the longer one is above.
func (d digits) compare(other digits) int {
	if c := cmp.Compare(len(d), len(other)); c != 0 {
		return c
	}
	for i := len(d) - 1; i >= 0; i-- {
		if c := cmp.Compare(d[i], other[i]); c != 0 {
			return c
		}
	}
	return 0
}

func (d digits) decimal() string {
	if d.none() {
		return "0"
	}
	var text strings.Builder
	last := len(d) - 1
	text.WriteString(strconv.FormatUint(d.at(last), 10))
	for i := last - 1; i >= 0; i-- {
		place := strconv.FormatUint(d.at(i), 10)
		text.WriteString(strings.Repeat("0", width-len(place)))
		text.WriteString(place)
	}
	return text.String()
}

func isDecimal(s string) bool {
	for i := range len(s) {
		if s[i] < '0' || s[i] > '9' {
			return false
		}
	}
	return s == "0" || s != "" && s[0] != '0'
}

// read takes a decimal text from its end, where the lowest digit stands.
func read(s string) digits {
	var d digits
	for end := len(s); end > 0; end -= width {
		var x uint32
		for _, c := range []byte(s[max(0, end-width):end]) {
			x = 10*x + uint32(c-'0')
		}
		d = append(d, x)
	}
	return d.stripped()
}
