package uri

import (
	"strings"

	"caliper/api"
)

// plainSigns are what all parts but the scheme may hold as it is, beside letters and digits.
// `/` and `?` are among them: where they may not stand, they are marks, and parted has cut there.
const plainSigns = "-._~!$&'()*+,;=:@/?"

// schemeSigns are what a scheme may hold behind its first letter, beside letters and digits.
const schemeSigns = "+-."

// parted cuts a text at its marks, whatever its bytes are.
// So cut, a path begins with `//` behind an authority alone, and behind one it is empty or begins with `/`: neither needs a test.
func parted(s string) api.Uri {
	var u api.Uri
	s, u.Fragment, u.HasFragment = strings.Cut(s, "#")
	s, u.Query, u.HasQuery = strings.Cut(s, "?")
	u.Scheme, s = schemeOff(s)
	u.Authority, u.Path, u.HasAuthority = authorityOff(s)
	return u
}

// schemeOff is the scheme at a text's begin, empty if there is none, and what stands behind its mark.
func schemeOff(s string) (string, string) {
	if at := strings.IndexAny(s, ":/"); at > 0 && s[at] == ':' {
		return s[:at], s[at+1:]
	}
	return "", s
}

// authorityOff is the authority at a text's begin, what stands behind it, and whether there is one.
func authorityOff(s string) (string, string, bool) {
	rest, there := strings.CutPrefix(s, "//")
	if !there {
		return "", s, false
	}
	end := strings.IndexByte(rest, '/')
	if end < 0 {
		end = len(rest)
	}
	return rest[:end], rest[end:], true
}

func isWellWritten(u api.Uri) bool {
	return isScheme(u.Scheme) && hasPlain(u.Authority, "[]") && hasPlain(u.Path, "") && hasPlain(u.Query, "") && hasPlain(u.Fragment, "") && !looksSchemed(u)
}

// isScheme tells whether a text may be a scheme; the empty one is none, so nothing is wrong with it.
func isScheme(s string) bool {
	for i := range len(s) {
		if !isLetter(s[i]) && (i == 0 || !isDigit(s[i]) && strings.IndexByte(schemeSigns, s[i]) < 0) {
			return false
		}
	}
	return true
}

// hasPlain tells whether a part holds plain bytes, others that it may hold, and codes of a `%` and two digits of 16 alone.
func hasPlain(part, others string) bool {
	for i := 0; i < len(part); i++ {
		c := part[i]
		switch {
		case isLetter(c) || isDigit(c) || strings.IndexByte(plainSigns, c) >= 0 || strings.IndexByte(others, c) >= 0:
		case c == '%' && len(part)-i > 2 && isHex(part[i+1]) && isHex(part[i+2]):
			i += 2
		default:
			return false
		}
	}
	return true
}

// looksSchemed tells whether the path alone would be read as a scheme and more: the text had a `:` as its first byte.
func looksSchemed(u api.Uri) bool {
	if u.Scheme != "" || u.HasAuthority {
		return false
	}
	first, _, _ := strings.Cut(u.Path, "/")
	return strings.Contains(first, ":")
}

func isLetter(c byte) bool {
	return within(c, 'a', 'z') || within(c, 'A', 'Z')
}

func isDigit(c byte) bool {
	return within(c, '0', '9')
}

func isHex(c byte) bool {
	return isDigit(c) || within(c, 'a', 'f') || within(c, 'A', 'F')
}

func within(c, least, most byte) bool {
	return least <= c && c <= most
}
