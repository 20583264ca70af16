package pointer

import "strings"

// hexDigits are the digits of 16 as they are written.
const hexDigits = "0123456789ABCDEF"

// plainSigns are what a fragment may hold as it is, beside letters and digits.
const plainSigns = "-._~!$&'()*+,;=:@/?"

// needsTilde tells whether a byte does not stand for itself in a pointer's part.
func needsTilde(c byte) bool {
	return c == '~' || c == '/'
}

func tildeCode(c byte) string {
	if c == '~' {
		return "~0"
	}
	return "~1"
}

func tildeMeaning(code string) (byte, bool) {
	switch code {
	case "0":
		return '~', true
	case "1":
		return '/', true
	}
	return 0, false
}

// needsPercent tells whether a byte does not stand for itself in a fragment.
func needsPercent(c byte) bool {
	return !within(c, 'a', 'z') && !within(c, 'A', 'Z') && !isDigit(c) && strings.IndexByte(plainSigns, c) < 0
}

func percentCode(c byte) string {
	return string([]byte{'%', hexDigits[c>>4], hexDigits[c&15]})
}

func percentMeaning(code string) (byte, bool) {
	high, ok := hexDigit(code[0])
	if !ok {
		return 0, false
	}
	low, ok := hexDigit(code[1])
	if !ok {
		return 0, false
	}
	return high<<4 | low, true
}

// hexDigit reads a digit of 16 in either case.
func hexDigit(c byte) (byte, bool) {
	switch {
	case isDigit(c):
		return c - '0', true
	case within(c, 'A', 'F'):
		return c - 'A' + 10, true
	case within(c, 'a', 'f'):
		return c - 'a' + 10, true
	}
	return 0, false
}

func isDigit(c byte) bool {
	return within(c, '0', '9')
}

// within tells whether a byte stands from one to another.
func within(c byte, from byte, to byte) bool {
	return from <= c && c <= to
}
