// Package utf is layer 1: see shared/doc/01-utf.md.
package utf

import (
	"strings"

	"caliper/api"
)

// greatest holds the greatest code points whose UTF-8 has one, two, three and four bytes.
var greatest = [4]int{0x7f, 0x7ff, 0xffff, 0x10ffff}

// The surrogates: the high ones come first in a pair.
const (
	firstHigh = 0xd800
	lastHigh  = 0xdbff
	firstLow  = 0xdc00
	lastLow   = 0xdfff
	lows      = lastLow - firstLow + 1
)

// Good tells how many bytes of b begin some valid text, and whether b is one itself.
func Good(b []byte) (int, bool) {
	at := 0
	for at < len(b) {
		n, whole := begun(b[at:])
		at += n
		if !whole {
			return at, false
		}
	}
	return at, true
}

// Points answers the code points of a valid text.
func Points(b []byte) ([]int, api.Errno) {
	if _, ok := Good(b); !ok {
		return nil, api.ErrUtf
	}
	text := string(b)
	points := make([]int, 0, Count(text))
	for _, r := range text {
		points = append(points, int(r))
	}
	return points, api.OK
}

// Put answers out with the UTF-8 of a code point behind it.
func Put(out []byte, p int) ([]byte, api.Errno) {
	if !isPoint(p) {
		return nil, api.ErrArg
	}
	switch length(p) {
	case 1:
		return joined(out, byte(p)), api.OK
	case 2:
		return joined(out, byte(0xc0|p>>6), follower(p)), api.OK
	case 3:
		return joined(out, byte(0xe0|p>>12), follower(p>>6), follower(p)), api.OK
	}
	return joined(out, byte(0xf0|p>>18), follower(p>>12), follower(p>>6), follower(p)), api.OK
}

// Pair answers the code point that two surrogates make.
func Pair(high int, low int) (int, api.Errno) {
	if high < firstHigh || high > lastHigh || low < firstLow || low > lastLow {
		return 0, api.ErrPair
	}
	return least(4) + (high-firstHigh)*lows + (low - firstLow), api.OK
}

// Split answers the two surrogates that make a code point.
func Split(p int) (int, int, api.Errno) {
	if p < least(4) || p > greatest[3] {
		return 0, 0, api.ErrArg
	}
	rest := p - least(4)
	return firstHigh + rest/lows, firstLow + rest%lows, api.OK
}

// Count tells how many bytes of s do not follow others in a code point: of a valid text as many as it has code points.
func Count(s string) int {
	n := 0
	for i := range len(s) {
		if !follows(s[i]) {
			n++
		}
	}
	return n
}

// Compare compares texts byte by byte. UTF-8 keeps the order of code points, so these need not be read.
func Compare(a string, b string) int {
	return strings.Compare(a, b)
}
