package pointer

import "strings"

// sought is the first place from at on whose byte stands the test, or the end.
func sought(s string, at int, test func(c byte) bool) int {
	for at < len(s) && !test(s[at]) {
		at++
	}
	return at
}

// is tests for one byte.
func is(wanted byte) func(c byte) bool {
	return func(c byte) bool { return c == wanted }
}

// encoded is a text with a code in the place of each byte that stands the test.
func encoded(s string, test func(c byte) bool, code func(c byte) string) string {
	var out strings.Builder
	at := 0
	for {
		end := sought(s, at, test)
		out.WriteString(s[at:end])
		if end == len(s) {
			return out.String()
		}
		out.WriteString(code(s[end]))
		at = end + 1
	}
}

// decoded is a text with one byte in the place of each mark and the bytes behind it, as many as width; not ok, if they mean none.
// What was put is not read again, so ~01 is ~1 and %2541 is %41.
func decoded(s string, mark byte, width int, meaning func(code string) (byte, bool)) (string, bool) {
	var out strings.Builder
	at := 0
	for {
		end := sought(s, at, is(mark))
		out.WriteString(s[at:end])
		if end == len(s) {
			return out.String(), true
		}
		at = end + 1 + width
		if at > len(s) {
			return "", false
		}
		c, ok := meaning(s[end+1 : at])
		if !ok {
			return "", false
		}
		out.WriteByte(c)
	}
}
