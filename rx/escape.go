package rx

import (
	"strings"

	"caliper/api"
	"caliper/utf"
)

// mark is what an escape stands for: numbers, and whether it names a set, so that no range begins or ends with it.
type mark struct {
	ranges []api.Range
	named  bool
}

// single is the mark of one number.
func single(p int) mark {
	return mark{ranges: []api.Range{only(p)}}
}

// escape reads what stands behind a backslash.
func (r *reader) escape() mark {
	letter := r.next()
	if ranges, ok := namedBy(letter); ok {
		return mark{ranges: ranges, named: true}
	}
	return single(r.escaped(letter))
}

// escaped reads the rest of an escape that stands for one number.
func (r *reader) escaped(letter int) int {
	switch letter {
	case 't':
		return 9
	case 'n':
		return 10
	case 'v':
		return 11
	case 'f':
		return 12
	case 'r':
		return 13
	case '0':
		return r.nought()
	case 'c':
		return r.control()
	case 'x':
		return r.hex(2)
	case 'u':
		return r.unicode()
	}
	if !strings.ContainsRune(syntax+"/", rune(letter)) {
		panic(api.ErrRx)
	}
	return letter
}

// nought asks that no digit stands behind a 0: it would be another kind of escape.
func (r *reader) nought() int {
	if isDigit(r.peek(0)) {
		panic(api.ErrRx)
	}
	return 0
}

// control reads a letter for its control character.
func (r *reader) control() int {
	letter := r.next()
	if !isLetter(letter) {
		panic(api.ErrRx)
	}
	return letter % 32
}

// unicode reads a code point by its number, or by the pair that stands for it.
func (r *reader) unicode() int {
	if r.take("{") {
		return r.braced()
	}
	p := r.hex(4)
	if isPoint(p) {
		return p
	}
	r.need(`\u`)
	pair, errno := utf.Pair(p, r.hex(4))
	if errno != api.OK {
		panic(api.ErrRx)
	}
	return pair
}

// braced reads digits up to a `}`. It refuses as soon as they are too great, so no row of digits is too long for an int.
func (r *reader) braced() int {
	p := r.hex(1)
	for !r.take("}") {
		p = p*16 + r.hex(1)
		if p > greatest {
			panic(api.ErrRx)
		}
	}
	if !isPoint(p) {
		panic(api.ErrRx)
	}
	return p
}

// hex reads so many digits of 16.
func (r *reader) hex(n int) int {
	number := 0
	for range n {
		number = number*16 + hexDigitOf(r.next())
	}
	return number
}

// hexDigitOf is the number of a digit of 16.
func hexDigitOf(p int) int {
	switch {
	case p >= 'a' && p <= 'f':
		return p - 'a' + 10
	case p >= 'A' && p <= 'F':
		return p - 'A' + 10
	}
	return digitOf(p)
}

// digitOf is the number of a digit.
func digitOf(p int) int {
	if !isDigit(p) {
		panic(api.ErrRx)
	}
	return p - '0'
}

func isDigit(p int) bool {
	return p >= '0' && p <= '9'
}

func isLetter(p int) bool {
	return p >= 'a' && p <= 'z' || p >= 'A' && p <= 'Z'
}

// isPoint tells whether a number is a code point: those that are have UTF-8.
func isPoint(p int) bool {
	_, errno := utf.Put(nil, p)
	return errno == api.OK
}
