package lex

import (
	"caliper/api"
	"caliper/utf"
)

// leastPlain is the least byte that stands in a string for itself.
const leastPlain = 0x20

// isPlain tells whether a byte stands in a string for itself.
func isPlain(c byte) bool {
	return c >= leastPlain && !among(c, '"', '\\')
}

// text reads a string, from its first quotation mark on.
func text(b []byte, from int) (api.Token, error) {
	var out []byte
	at := from + 1
	for {
		end, err := plain(b, at)
		if err != nil {
			return api.Token{}, err
		}
		out = append(out, b[at:end]...)
		if standsAt(b, end, '"') {
			return api.Token{Kind: api.TokString, Text: string(out), From: from, To: end + 1}, nil
		}
		var meant []byte
		if meant, at, err = escape(b, end); err != nil {
			return api.Token{}, err
		}
		out = append(out, meant...)
	}
}

// plain is the place behind the bytes that stand for themselves. They are asked whether they are UTF-8 as a row of their own, since nothing else can go on with a code point.
func plain(b []byte, at int) (int, error) {
	end := passed(b, at, isPlain)
	if good, ok := utf.Good(b[at:end]); !ok {
		return 0, badAt(at + good)
	}
	return end, nil
}

// escape is what an escape stands for, and the place behind it.
func escape(b []byte, at int) ([]byte, int, error) {
	at, err := taken(b, at, func(c byte) bool { return c == '\\' })
	if err != nil {
		return nil, 0, err
	}
	if standsAt(b, at, 'u') {
		return point(b, at+1)
	}
	var meant byte
	at, err = taken(b, at, func(c byte) bool {
		var ok bool
		meant, ok = meaning(c)
		return ok
	})
	if err != nil {
		return nil, 0, err
	}
	return []byte{meant}, at, nil
}

// meaning is the byte that an escape of one letter stands for.
func meaning(letter byte) (byte, bool) {
	switch letter {
	case '"', '\\', '/':
		return letter, true
	case 'b':
		return '\b', true
	case 'f':
		return '\f', true
	case 'n':
		return '\n', true
	case 'r':
		return '\r', true
	case 't':
		return '\t', true
	}
	return 0, false
}
