package lex

// among tells whether a byte is one of those that are looked for.
func among(c byte, wanted ...byte) bool {
	for _, w := range wanted {
		if c == w {
			return true
		}
	}
	return false
}

// within tells whether a byte stands from one to another.
func within(c byte, from byte, to byte) bool {
	return from <= c && c <= to
}

// isDigit tells whether a byte is a decimal digit.
func isDigit(c byte) bool {
	return within(c, '0', '9')
}

// passed is the first place from at on whose byte fails the test, or the end.
func passed(b []byte, at int, test func(c byte) bool) int {
	for at < len(b) && test(b[at]) {
		at++
	}
	return at
}

// taken is the place behind at, if the byte there stands the test.
func taken(b []byte, at int, test func(c byte) bool) (int, error) {
	if at >= len(b) || !test(b[at]) {
		return 0, badAt(at)
	}
	return at + 1, nil
}

// standsAt tells whether one of the wanted bytes stands at a place, which may be the end.
func standsAt(b []byte, at int, wanted ...byte) bool {
	return at < len(b) && among(b[at], wanted...)
}
