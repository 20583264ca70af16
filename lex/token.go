package lex

import "caliper/api"

// read reads the token that begins just at a place.
func read(b []byte, from int) (api.Token, error) {
	if from == len(b) {
		return api.Token{Kind: api.TokEnd, From: from, To: from}, nil
	}
	c := b[from]
	switch {
	case among(c, '[', ']', '{', '}', ',', ':'):
		return asItStands(api.TokSign, b, from, from+1), nil
	case c == 'n':
		return word(b, from, "null")
	case c == 't':
		return word(b, from, "true")
	case c == 'f':
		return word(b, from, "false")
	case c == '-', isDigit(c):
		return number(b, from)
	case c == '"':
		return text(b, from)
	}
	return api.Token{}, badAt(from)
}

// asItStands is a token whose text is its own bytes.
func asItStands(kind api.TokenKind, b []byte, from int, to int) api.Token {
	return api.Token{Kind: kind, Text: string(b[from:to]), From: from, To: to}
}

// word reads a word letter by letter.
func word(b []byte, from int, letters string) (api.Token, error) {
	to, err := spelled(b, from, letters)
	if err != nil {
		return api.Token{}, err
	}
	return asItStands(api.TokWord, b, from, to), nil
}

// spelled is the place behind letters that must stand at a place.
func spelled(b []byte, at int, letters string) (int, error) {
	for i := range len(letters) {
		var err error
		if at, err = taken(b, at, func(c byte) bool { return c == letters[i] }); err != nil {
			return 0, err
		}
	}
	return at, nil
}

// number reads a number. A point or an e is never left to the next token: none begins with it, so a number that stops there is bad.
func number(b []byte, from int) (api.Token, error) {
	to, err := whole(b, from)
	if err == nil && standsAt(b, to, '.') {
		to, err = digits(b, to+1)
	}
	if err == nil && standsAt(b, to, 'e', 'E') {
		to, err = exponent(b, to+1)
	}
	if err != nil {
		return api.Token{}, err
	}
	return asItStands(api.TokNumber, b, from, to), nil
}

// whole is the place behind a number's part ahead of the point. Behind a nought come no other digits.
func whole(b []byte, at int) (int, error) {
	if standsAt(b, at, '-') {
		at++
	}
	if standsAt(b, at, '0') {
		return at + 1, nil
	}
	return digits(b, at)
}

// digits is the place behind as many digits as there are, at least one.
func digits(b []byte, at int) (int, error) {
	at, err := taken(b, at, isDigit)
	if err != nil {
		return 0, err
	}
	return passed(b, at, isDigit), nil
}

// exponent is the place behind an exponent, from behind its e on.
func exponent(b []byte, at int) (int, error) {
	if standsAt(b, at, '+', '-') {
		at++
	}
	return digits(b, at)
}
