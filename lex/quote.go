package lex

// hexDigits are the digits of 16 as they are written.
const hexDigits = "0123456789abcdef"

// quoted writes a string of valid UTF-8.
func quoted(b []byte) string {
	out := make([]byte, 0, len(b)+2)
	out = append(out, '"')
	at := 0
	for {
		end := passed(b, at, isPlain)
		out = append(out, b[at:end]...)
		if end == len(b) {
			return string(append(out, '"'))
		}
		out = append(out, escaped(b[end])...)
		at = end + 1
	}
}

// escaped writes a byte that does not stand for itself.
func escaped(c byte) string {
	switch c {
	case '"':
		return `\"`
	case '\\':
		return `\\`
	case '\b':
		return `\b`
	case '\f':
		return `\f`
	case '\n':
		return `\n`
	case '\r':
		return `\r`
	case '\t':
		return `\t`
	}
	return `\u00` + hexDigits[c>>4:c>>4+1] + hexDigits[c&15:c&15+1]
}
