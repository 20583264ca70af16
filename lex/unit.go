package lex

import (
	"caliper/api"
	"caliper/utf"
)

// The surrogates: a high one and a low one behind it make a pair.
const (
	firstHigh = 0xd800
	lastHigh  = 0xdbff
	firstLow  = 0xdc00
	lastLow   = 0xdfff
)

// point is the UTF-8 of the code point that is escaped, from behind its u on, and the place behind it.
func point(b []byte, at int) ([]byte, int, error) {
	p, at, err := unit(b, at, someNotLow)
	if err == nil && p >= firstHigh && p <= lastHigh {
		p, at, err = pair(b, at, p)
	}
	if err != nil {
		return nil, 0, err
	}
	put, e := utf.Put(nil, p)
	if e != api.OK {
		return nil, 0, badAt(at)
	}
	return put, at, nil
}

// pair is the code point of a high surrogate and the low one that must be escaped at a place.
func pair(b []byte, at int, high int) (int, int, error) {
	at, err := spelled(b, at, `\u`)
	if err != nil {
		return 0, 0, err
	}
	low, at, err := unit(b, at, someLow)
	if err != nil {
		return 0, 0, err
	}
	p, e := utf.Pair(high, low)
	if e != api.OK {
		return 0, 0, badAt(at)
	}
	return p, at, nil
}

// unit is the number that four digits of 16 make. As soon as one comes after which the number, whatever digits follow, is none of the wanted ones, it is bad.
func unit(b []byte, at int, someWanted func(least int, greatest int) bool) (int, int, error) {
	value := 0
	for left := 12; left >= 0; left -= 4 {
		var err error
		at, err = taken(b, at, func(c byte) bool {
			digit, ok := hex(c)
			value = value<<4 | digit
			least := value << left
			return ok && someWanted(least, least|(1<<left-1))
		})
		if err != nil {
			return 0, 0, err
		}
	}
	return value, at, nil
}

// someNotLow tells whether some number from the least to the greatest is no low surrogate.
func someNotLow(least int, greatest int) bool {
	return least < firstLow || greatest > lastLow
}

// someLow tells whether some number from the least to the greatest is a low surrogate.
func someLow(least int, greatest int) bool {
	return least <= lastLow && greatest >= firstLow
}

// hex is the value of a digit of 16.
func hex(c byte) (int, bool) {
	switch {
	case isDigit(c):
		return int(c - '0'), true
	case within(c, 'a', 'f'):
		return int(c-'a') + 10, true
	case within(c, 'A', 'F'):
		return int(c-'A') + 10, true
	}
	return 0, false
}
