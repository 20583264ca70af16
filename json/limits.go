package json

import (
	"caliper/api"
	"caliper/dec"
)

// bounded is a limit that was asked for, or the greatest one, if that was none.
func bounded(asked int, greatest int) int {
	if asked > 0 && asked <= greatest {
		return asked
	}
	return greatest
}

// limitOf is the number of the first limit that a number passes, or 0, and the number, if there is none.
func limitOf(text string, l api.Limits) (api.Dec, int) {
	if digitsAhead(text) > l.Digits {
		return api.Dec{}, api.LimDigits
	}
	d, errno := dec.Parse(text)
	// No limit is above layer 3's own, so what it finds large, with no digit too many, is the exponent.
	if errno != api.OK || d.Exp < -l.Exp || d.Exp > l.Exp {
		return api.Dec{}, api.LimExp
	}
	return d, 0
}

// digitsAhead is how many digits a number has ahead of its exponent.
func digitsAhead(text string) int {
	n := 0
	for i := range len(text) {
		switch c := text[i]; {
		case c == 'e' || c == 'E':
			return n
		case '0' <= c && c <= '9':
			n++
		}
	}
	return n
}
