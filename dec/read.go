package dec

import (
	"errors"
	"strconv"
	"strings"

	"caliper/api"
)

// noNumber is the error of a text that is no JSON number: how many of its bytes were read as one.
type noNumber struct {
	at int
}

func (n noNumber) Error() string {
	return "no number from byte " + strconv.Itoa(n.at) + " on"
}

// errLarge is the error of a number that is too long, or too far.
var errLarge = errors.New("a number too large")

// far is an exponent past which no digits that a number may have lead back to MaxExp.
const far = api.MaxExp + 2*api.MaxDigits

// parts are what a number's text is made of.
type parts struct {
	neg      bool
	whole    string
	fraction string
	down     bool // whether the exponent is below 0
	exponent string
}

func read(s string) (api.Dec, error) {
	p, rest, ok := split(s)
	if !ok || rest != "" {
		return api.Dec{}, noNumber{len(s) - len(rest)}
	}
	return p.number()
}

// split reads a number's parts from the beginning of a text: them, what stands behind them, and whether nothing is missing there.
func split(s string) (parts, string, bool) {
	var p parts
	var ok bool
	s, p.neg = strings.CutPrefix(s, "-")
	if p.whole, s, ok = splitWhole(s); !ok {
		return p, s, false
	}
	if behind, found := strings.CutPrefix(s, "."); found {
		if p.fraction, s, ok = splitDigits(behind); !ok {
			return p, s, false
		}
	}
	if behind, found := cutAny(s, 'e', 'E'); found {
		p.down = strings.HasPrefix(behind, "-")
		s, _ = cutAny(behind, '+', '-')
		p.exponent, s, ok = splitDigits(s)
		return p, s, ok
	}
	return p, s, true
}

// splitWhole takes digits off a text; behind a nought ahead of all there are none.
func splitWhole(s string) (string, string, bool) {
	if behind, found := strings.CutPrefix(s, "0"); found {
		return "0", behind, true
	}
	return splitDigits(s)
}

// splitDigits takes digits off a text: them, what stands behind them, and whether there are any.
func splitDigits(s string) (string, string, bool) {
	n := digitsAhead(s)
	return s[:n], s[n:], n > 0
}

// cutAny takes one of these bytes off a text, if it begins with one.
func cutAny(s string, these ...byte) (string, bool) {
	for _, c := range these {
		if s != "" && s[0] == c {
			return s[1:], true
		}
	}
	return s, false
}

// number makes a number of its parts.
func (p parts) number() (api.Dec, error) {
	if len(p.whole)+len(p.fraction) > api.MaxDigits {
		return api.Dec{}, errLarge
	}
	all := p.whole + p.fraction
	upToLast := strings.TrimRight(all, "0")
	digits := strings.TrimLeft(upToLast, "0")
	if digits == "" {
		return nought(), nil
	}
	exp := p.shift() - len(p.fraction) + len(all) - len(upToLast)
	if exp < -api.MaxExp || exp > api.MaxExp {
		return api.Dec{}, errLarge
	}
	// Cloned, so that a few digits do not hold on to a long text.
	return api.Dec{Neg: p.neg, Digits: strings.Clone(digits), Exp: exp}, nil
}

// shift is what stands behind the `e`, or far, if it is beyond: it may have more digits than an int holds.
func (p parts) shift() int {
	n := 0
	for i := range len(p.exponent) {
		n = min(n*10+int(p.exponent[i]-'0'), far)
	}
	if p.down {
		return -n
	}
	return n
}
