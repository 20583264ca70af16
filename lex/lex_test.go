package lex

import (
	"bytes"
	"encoding/json"
	"errors"
	"fmt"
	"math"
	"regexp"
	"slices"
	"strconv"
	"strings"
	"testing"
	"unicode/utf8"

	"caliper/api"
)

// cut is a text, short enough to be told.
func cut(s string) string {
	if len(s) > 60 {
		return strconv.Quote(s[:30]) + ".." + strconv.Itoa(len(s)) + " bytes.." + strconv.Quote(s[len(s)-20:])
	}
	return strconv.Quote(s)
}

// chance is a row of numbers that look as if they had no rule, the same ones each time.
type chance uint64

func (c *chance) below(n int) int {
	*c = *c*6364136223846793005 + 1442695040888963407
	return int(uint64(*c)>>33) % n
}

// reads asks for a token, and for nothing beside it.
func reads(t *testing.T, s string, at int, want api.Token) {
	t.Helper()
	got, n, e := Next([]byte(s), at)
	if got != want || n != 0 || e != api.OK {
		t.Errorf("Next(%s, %d) = {%d %s %d %d}, %d, %d; want {%d %s %d %d}, 0, 0", cut(s), at,
			got.Kind, cut(got.Text), got.From, got.To, n, e, want.Kind, cut(want.Text), want.From, want.To)
	}
}

// isBad asks for a bad length, and for no token.
func isBad(t *testing.T, s string, at int, want int) {
	t.Helper()
	got, n, e := Next([]byte(s), at)
	if got != (api.Token{}) || n != want || e != api.ErrJSON {
		t.Errorf("Next(%s, %d) = {%d %s %d %d}, %d, %d; want bad with %d", cut(s), at, got.Kind, cut(got.Text), got.From, got.To, n, e, want)
	}
}

// tokens are texts that are just one token, and what it is.
func tokens() map[string]api.Token {
	all := map[string]api.Token{}
	put := func(kind api.TokenKind, s string, meant string) {
		all[s] = api.Token{Kind: kind, Text: meant, To: len(s)}
	}
	for _, s := range []string{"[", "]", "{", "}", ",", ":"} {
		put(api.TokSign, s, s)
	}
	for _, s := range []string{"null", "true", "false"} {
		put(api.TokWord, s, s)
	}
	for _, s := range []string{
		"0", "-0", "1", "9", "-1", "10", "1234567890", "-909", "0.0", "0.5", "-0.5", "1.50", "10.01", "0.1234567890",
		"0e0", "0E0", "1e5", "1E5", "1e+5", "1e-5", "1E+05", "-1.50e-0099", "0.0E+00", "1e1000001", "-0e-0",
		strings.Repeat("9", api.MaxDigits+1), "-0." + strings.Repeat("0", api.MaxBytes-3), "1e" + strings.Repeat("7", 100000),
	} {
		put(api.TokNumber, s, s)
	}
	for s, meant := range map[string]string{
		`""`: "", `"a"`: "a", `" "`: " ", `"null"`: "null", `"[1,2]"`: "[1,2]", `"'"`: "'", `"a b"`: "a b",
		`"\""`: `"`, `"\\"`: `\`, `"\/"`: "/", `"/"`: "/", `"\b"`: "\x08", `"\f"`: "\x0c", `"\n"`: "\x0a", `"\r"`: "\x0d", `"\t"`: "\x09",
		`"\\\""`: `\"`, `"\\n"`: `\n`, `"a\\b\"c\/d\be\ff\ng\rh\ti"`: "a\\b\"c/d\be\ff\ng\rh\ti",
		`"\u0000"`: "\x00", `"\u0022"`: `"`, `"\u005c"`: `\`, `"\u005C\u006e"`: `\n`, `"\u001f"`: "\x1f", `"\u007f"`: "\x7f", `"\u0080"`: "\u0080",
		`"\u07ff"`: "\u07ff", `"\u0800"`: "\u0800", `"\u00e9"`: "é", `"\u00E9"`: "é", `"\uabCD"`: "\uabcd", `"\ufFfF"`: "\uffff", `"\ufeff"`: "\ufeff",
		`"\ud7ff"`: "\ud7ff", `"\ue000"`: "\ue000", `"\uE000"`: "\ue000", `"\ud7ff\ue000"`: "\ud7ff\ue000",
		`"\ud800\udc00"`: "\U00010000", `"\uD800\uDC00"`: "\U00010000", `"\udbff\udfff"`: "\U0010ffff", `"\uDBFF\uDFFF"`: "\U0010ffff", `"\ud83d\ude00"`: "😀",
		`"\ud800\udfff"`: "\U000103ff", `"\udbff\udc00"`: "\U0010fc00", `"a\ud83d\ude00b\ud83d\ude01"`: "a😀b😁", `"\u00e9x\u00e9"`: "éxé",
		"\"\x7f\"": "\x7f", `"é€😀"`: "é€😀", "\"\ufeff\"": "\ufeff", "\"\U0010ffff\"": "\U0010ffff", "\"\ud7ff\ue000\"": "\ud7ff\ue000", "\"\u2028\u0085\"": "\u2028\u0085",
		`"` + strings.Repeat("é", 400000) + `"`: strings.Repeat("é", 400000), `"` + strings.Repeat(`\u00e9`, 100000) + `"`: strings.Repeat("é", 100000),
	} {
		put(api.TokString, s, meant)
	}
	return all
}

// P4.1: every kind of token, alone.
func TestTokens(t *testing.T) {
	for s, want := range tokens() {
		reads(t, s, 0, want)
	}
}

// P4.1: blanks ahead, other bytes behind, and other bytes ahead of the place; From and To are where the token stands in b.
func TestTokensAmongOthers(t *testing.T) {
	ahead := []string{"", " ", "\t", "\n", "\r", " \t\n\r  \r\n", strings.Repeat(" ", 1000)}
	for s, want := range tokens() {
		if len(s) > 1000 {
			continue
		}
		behind := []string{"", " ", "\n1", ",", ":", "]", "}", "[", "{", `"`, "\x00", "\xff", "n", "x", "-", "/", `\`}
		if want.Kind != api.TokNumber {
			behind = append(behind, "1", "0.5", ".", "e", "E", "+")
		}
		for _, a := range ahead {
			for _, b := range behind {
				for _, skipped := range []string{"", "1", "\xff\"", "null,", `"`} {
					token := want
					token.From = len(skipped) + len(a)
					token.To = token.From + len(s)
					reads(t, skipped+a+s+b, len(skipped), token)
				}
			}
		}
	}
	reads(t, ` "a\u00e9"`, 0, api.Token{Kind: api.TokString, Text: "aé", From: 1, To: 10})
	reads(t, "null,true", 4, api.Token{Kind: api.TokSign, Text: ",", From: 4, To: 5})
	reads(t, "null,true", 5, api.Token{Kind: api.TokWord, Text: "true", From: 5, To: 9})
	reads(t, "-12", 1, api.Token{Kind: api.TokNumber, Text: "12", From: 1, To: 3})
	reads(t, "-12", 2, api.Token{Kind: api.TokNumber, Text: "2", From: 2, To: 3})
	reads(t, `\u00e9"a"`, 6, api.Token{Kind: api.TokString, Text: "a", From: 6, To: 9})
}

// P4.1: a number is as long as it can be, and no longer.
func TestLongestNumber(t *testing.T) {
	for s, n := range map[string]int{
		"00": 1, "01": 1, "01.": 1, "-00": 2, "-01.5": 2, "0x": 1, "1-": 1, "1+2": 1, "12 3": 2, "1,5": 1, "1.5.5": 3, "1.5e3.2": 5, "1.5e3e2": 5, "1e5-1": 3, "1.0-": 3,
		"0.00.": 4, "10e01e": 5, "5a": 1, "5_0": 1, "1\u0661": 1, "1:": 1, "1/": 1, "1.5:": 3, "1.5/": 3, "1e5:": 3, "1e5/": 3,
	} {
		reads(t, s, 0, api.Token{Kind: api.TokNumber, Text: s[:n], To: n})
	}
}

// P4.1: a place that is none is refused; at the end there is a token of the end.
func TestPlaces(t *testing.T) {
	for _, s := range []string{"", "1", "nul", " \n", "\xff", `"`} {
		n := len(s)
		for _, at := range []int{-1, n + 1, n + 2, -n - 1, math.MinInt, math.MaxInt, math.MinInt32, math.MaxInt32} {
			if token, k, e := Next([]byte(s), at); token != (api.Token{}) || k != 0 || e != api.ErrArg {
				t.Errorf("Next(%q, %d) = %v, %d, %d", s, at, token, k, e)
			}
		}
		reads(t, s, n, api.Token{Kind: api.TokEnd, From: n, To: n})
	}
	for at := range 6 {
		reads(t, " \t\r\n ", at, api.Token{Kind: api.TokEnd, From: 5, To: 5})
	}
	reads(t, "1 ", 1, api.Token{Kind: api.TokEnd, From: 2, To: 2})
	if token, k, e := Next(nil, 0); token != (api.Token{}) || k != 0 || e != api.OK {
		t.Errorf("Next(nil, 0) = %v, %d, %d", token, k, e)
	}
	if token, k, e := Next(nil, 1); token != (api.Token{}) || k != 0 || e != api.ErrArg {
		t.Errorf("Next(nil, 1) = %v, %d, %d", token, k, e)
	}
	room := []byte(`nullnull`)[:3]
	if token, k, e := Next(room, 0); token != (api.Token{}) || k != 4 || e != api.ErrJSON {
		t.Errorf("Next of nul with room behind = %v, %d, %d", token, k, e)
	}
	if token, k, e := Next(room, 4); token != (api.Token{}) || k != 0 || e != api.ErrArg {
		t.Errorf("Next behind nul with room there = %v, %d, %d", token, k, e)
	}
}

// P4.1: which bytes are blanks.
func TestBlank(t *testing.T) {
	for c := range 256 {
		want := c == 9 || c == 10 || c == 13 || c == 32
		if Blank(byte(c)) != want {
			t.Errorf("Blank(%d) = %t", c, !want)
		}
	}
}

// P4.2: what is bad, and from where on.
func TestBad(t *testing.T) {
	for s, n := range map[string]int{
		// Bytes that begin no token.
		"x": 1, "N": 1, "+1": 1, ".5": 1, "e": 1, "'": 1, "\\": 1, "/": 1, "\x00": 1, "\x0b": 1, "\x0c": 1, "\x1f": 1, "\x7f": 1, "\xff": 1, "é": 1, "\ufeff1": 1, "\u00a0": 1, "(": 1, "u": 1,
		" x": 2, "\n\t x1": 4, "  \\": 3,
		// Words.
		"n": 2, "nu": 3, "nul": 4, "nux": 3, "nulL": 4, "nulx": 4, "nx": 2, "nULL": 2, "n ull": 2, "t": 2, "tr": 3, "tru": 4, "tru ": 4, "trux": 4, "f": 2, "fa": 3, "fal": 4, "fals": 5, "falsx": 5, "falsy": 5, "fx": 2, " fals": 6, "nan": 2, "tralse": 3,
		// Numbers.
		"-": 2, "-x": 2, "--1": 2, "-.5": 2, "- 1": 2, "-e": 2, "+": 1, "1.": 3, "1.x": 3, "1..": 3, "1.e5": 3, "1. ": 3, "1.,": 3, "0.": 3, "-0.": 4, "0.-1": 3, "1e": 3, "1E": 3, "1ex": 3, "1e.5": 3, "1e+": 4, "1e-": 4, "1e+x": 4, "1e+-": 4, "1e ": 3, "1.5e": 5, "1.5e]": 5, "1.5E-": 6, "1.5E-:": 6, "-0e": 4, "-0e\"": 4, "1e\x00": 3,
		// Strings.
		`"`: 2, `"a`: 3, "\"a\n\"": 3, "\"\x00\"": 2, "\"\x1f": 2, "\"ab\x1f\"": 4, "\"\t\"": 2, `"'`: 3, ` "`: 3, `"\"`: 4, `"é`: 4,
		`"\`: 3, `"\x`: 3, `"\ "`: 3, `"\'"`: 3, `"\0"`: 3, `"\N"`: 3, `"\U0041"`: 3, `"\a"`: 3, `"\v"`: 3, "\"\\\n\"": 3, "\"\\\xff\"": 3, `"a\n\q`: 6, `"\n`: 4, `"\n\`: 5,
		`"\u`: 4, `"\u"`: 4, `"\u0`: 5, `"\u00`: 6, `"\u00e`: 7, `"\u00e9`: 8, `"\u00e"`: 7, `"\ug`: 4, `"\u0g`: 5, `"\u00G0"`: 6, `"\u000g"`: 7, `"\u{41}"`: 4, `"\u+041"`: 4, `"\u-041`: 4, `"\u 041`: 4, `"\u004/`: 7, `"\u004:`: 7, "\"\\u004`": 7, `"\u004@`: 7,
		// Surrogates.
		`"\ud800x`: 8, `"\udc`: 5, `"\ud800`: 8, `"\ud800"`: 8, `"\ud800\`: 9, `"\ud800\n`: 9, `"\ud800\\`: 9, `"\ud800\"`: 9, `"\ud800\u`: 10, `"\ud800\uU`: 10, `"\ud800\u0`: 10, `"\ud800\ue`: 10, `"\ud800\ue000`: 10, `"\ud800\uc`: 10,
		`"\ud800\ud`: 11, `"\ud800\ud8`: 11, `"\ud800\ud7`: 11, `"\ud800\udb`: 11, `"\ud800\ud800`: 11, `"\uD800\uDG`: 11, `"\ud800\udc`: 12, `"\ud800\udcg`: 12, `"\ud800\udc0`: 13, `"\ud800\udc0x`: 13, `"\ud800\udc00`: 14, `"\udbff\udfff\`: 15, `"\udbff\ud"`: 11, "\"\\udbff\x1f": 8, "\"\\udbff\xc3\xa9": 8, "\"\\udbff\xff": 8,
		`"\udc00"`: 5, `"\udd"`: 5, `"\uDE00`: 5, `"\udf`: 5, `"\udF`: 5, `"\udFFF`: 5, `"\uDfff\ud800`: 5, `"\ud`: 5, `"\udx`: 5, `"\ud8`: 6, `"\ud8x`: 6, `"\ud7`: 6, `"\ud7f`: 7, `"\ud80`: 7, `"\ud80g`: 7, `"\ud7ff`: 8, `"a\u00e9\ud83d\ude00\udc00"`: 24,
		// UTF-8 that is cut off or not valid.
		"\"\xff\"": 2, "\"\x80\"": 2, "\"\xc0\x80\"": 2, "\"\xc1": 2, "\"\xc3": 3, "\"\xc3\"": 3, "\"\xc3\\n": 3, "\"\xc3\x1f": 3, "\"\xc3\xc3": 3, "\"\xc3a": 3, "\"a\xc3": 4, "\"\xe2\x82": 4, "\"\xe2\x82\"": 4, "\"\xe2": 3, "\"\xe2\"": 3, "\"\xe0\x9f\xbf\"": 3, "\"\xe0\xa0\"": 4, "\"\xed\xa0\x80\"": 3, "\"\xed\x9f": 4, "\"\xed\xb0\x80": 3, "\"\xf0\x9f\x98": 5, "\"\xf0\x9f\x98\"": 5, "\"\xf0\x8f\xbf\xbf\"": 3, "\"\xf4\x8f\xbf": 5, "\"\xf4\x90\x80\x80\"": 3, "\"\xf5\"": 2, "\"\xf8\x88\"": 2, "\"ok\xfeno\"": 4, "\"\\n\xc3\\n\xa9": 5, "\"\xc3\\u00a9": 3, "\"é\xa9": 4, "\"\xff\n": 2, "\"\n\xff": 2,
	} {
		isBad(t, s, 0, n)
		for _, ahead := range []string{" ", "\r\n\t", "1,", "\"\xff", "nul"} {
			at := len(ahead)
			if strings.Trim(ahead, " \t\r\n") == "" {
				at = 0
			}
			isBad(t, ahead+s, at, len(ahead)+n)
		}
	}
}

// P4.2: every byte at every place of tokens where it may not be.
func TestBadBytes(t *testing.T) {
	for c := range 256 {
		s := string([]byte{byte(c)})
		if !strings.Contains("[]{},:ntf-0123456789\" \t\n\r", s) {
			isBad(t, s, 0, 1)
			isBad(t, "  "+s+"1", 1, 3)
		}
		if c < 0x20 {
			isBad(t, `"ab`+s+`"`, 0, 4)
			isBad(t, `"é`+s, 0, 4)
			isBad(t, `"\n`+s, 0, 4)
		}
		if !strings.Contains(`"\/bfnrtu`, s) {
			isBad(t, `"a\`+s+`"`, 0, 4)
		}
		if !strings.Contains("0123456789abcdefABCDEF", s) {
			for _, ahead := range []string{`"\u`, `"\u0`, `"\u00`, `"\u000`, `"\ud83d\ud`, `"\ud83d\ude`, `"\ud83d\ude0`} {
				isBad(t, ahead+s, 0, len(ahead)+1)
			}
		}
		if c != '\\' {
			isBad(t, `"\ud83d`+s+`\ude00"`, 0, 8)
		}
		if c != 'u' {
			isBad(t, `"\ud83d\`+s+`de00"`, 0, 9)
		}
		if !strings.Contains("dD", s) {
			isBad(t, `"\ud83d\u`+s+`c00"`, 0, 10)
		}
		if !strings.Contains("cdefCDEF", s) {
			isBad(t, `"\ud83d\ud`+s+`00"`, 0, 11)
		}
		if c < '0' || c > '9' {
			for _, ahead := range []string{"-", "1.", "0.", "1e", "1.5E"} {
				if !strings.Contains("+-", s) || !strings.ContainsAny(ahead, "eE") {
					isBad(t, ahead+s, 0, len(ahead)+1)
				}
			}
			for _, ahead := range []string{"1e+", "1E-", "-0.0e-"} {
				isBad(t, ahead+s, 0, len(ahead)+1)
			}
		}
		for _, w := range []string{"null", "true", "false"} {
			for i := 1; i < len(w); i++ {
				if w[i] != byte(c) {
					isBad(t, w[:i]+s+w[i:], 0, i+1)
				}
			}
		}
	}
}

// P4.1, P4.2: all escapes of one code point.
func TestAllUnits(t *testing.T) {
	for u := range 0x10000 {
		for _, form := range []string{"\"\\u%04x\"", "\"\\u%04X\""} {
			s := fmt.Sprintf(form, u)
			switch {
			case u >= 0xd800 && u <= 0xdbff:
				isBad(t, s, 0, 8)
			case u >= 0xdc00 && u <= 0xdfff:
				isBad(t, s, 0, 5)
			default:
				reads(t, s, 0, api.Token{Kind: api.TokString, Text: string(rune(u)), To: 8})
			}
		}
		pair := fmt.Sprintf("\"\\udbff\\u%04x\"", u)
		switch {
		case u>>12 != 0xd:
			isBad(t, pair, 0, 10)
		case u < 0xdc00:
			isBad(t, pair, 0, 11)
		default:
			reads(t, pair, 0, api.Token{Kind: api.TokString, Text: string(rune(0x10fc00 + u - 0xdc00)), To: 14})
		}
	}
	for high := 0xd800; high <= 0xdbff; high++ {
		for _, low := range []int{0xdc00, 0xdd5a, 0xdfff} {
			s := fmt.Sprintf("\"\\u%04x\\u%04X\"", high, low)
			reads(t, s, 0, api.Token{Kind: api.TokString, Text: string(rune(0x10000 + (high-0xd800)<<10 + low - 0xdc00)), To: 14})
		}
	}
}

var (
	aNumber = regexp.MustCompile(`^-?(0|[1-9][0-9]*)(\.[0-9]+)?([eE][+-]?[0-9]+)?$`)
	aWord   = regexp.MustCompile(`^(null|true|false)$`)
	aSign   = regexp.MustCompile(`^[\[\]{},:]$`)
	aString = regexp.MustCompile(`^"([^"\\\x00-\x1f]|\\["\\/bfnrt]|\\u([0-9abcefABCEF][0-9a-fA-F]{3}|[dD][0-7][0-9a-fA-F]{2})|\\u[dD][89abAB][0-9a-fA-F]{2}\\u[dD][c-fC-F][0-9a-fA-F]{2})*"$`)
)

// isToken tells by other means whether bytes are just one token, and which one.
func isToken(b []byte) (api.Token, bool) {
	token := api.Token{Text: string(b), To: len(b)}
	switch {
	case aNumber.Match(b):
		token.Kind = api.TokNumber
	case aWord.Match(b):
		token.Kind = api.TokWord
	case aSign.Match(b):
		token.Kind = api.TokSign
	case aString.Match(b) && utf8.Valid(b):
		token.Kind = api.TokString
		if json.Unmarshal(b, &token.Text) != nil {
			return api.Token{}, false
		}
	default:
		return api.Token{}, false
	}
	return token, true
}

// goesOn tells whether some token begins with these bytes: one of the endings makes one of them, if any does.
func goesOn(b []byte) bool {
	if len(b) == 0 {
		return true
	}
	for _, end := range []string{
		"", `"`, `n"`, `0"`, `00"`, `000"`, `0000"`, `00\udc00"`, `0\udc00"`, `\udc00"`, `udc00"`, `dc00"`, `c00"`, "0", "+0",
		"\x80\"", "\xa0\"", "\x90\"", "\x80\x80\"", "\xa0\x80\"", "\x90\x80\x80\"", "\x80\x80\x80\"",
		"ull", "ll", "l", "rue", "ue", "e", "alse", "lse", "se",
	} {
		if _, ok := isToken(append(slices.Clone(b), end...)); ok {
			return true
		}
	}
	return false
}

// expected is what Next must answer, found out by going on byte by byte as long as a token may come of it.
func expected(b []byte, at int) (api.Token, int, api.Errno) {
	from := len(b) - len(bytes.TrimLeft(b[at:], " \t\r\n"))
	if from == len(b) {
		return api.Token{From: from, To: from}, 0, api.OK
	}
	to := from
	for to < len(b) && goesOn(b[from:to+1]) {
		to++
	}
	token, ok := isToken(b[from:to])
	if !ok {
		return api.Token{}, to + 1, api.ErrJSON
	}
	token.From, token.To = from, to
	return token, 0, api.OK
}

// agrees holds Next against what is expected, and its argument against what it was.
func agrees(t *testing.T, b []byte, at int) {
	t.Helper()
	before := slices.Clone(b)
	got, n, e := Next(b, at)
	want, wantN, wantE := expected(b, at)
	if got != want || n != wantN || e != wantE {
		t.Fatalf("Next(%q, %d) = %v, %d, %d; want %v, %d, %d", b, at, got, n, e, want, wantN, wantE)
	}
	if !bytes.Equal(b, before) {
		t.Fatalf("Next changes %q to %q", before, b)
	}
}

// P4.1, P4.2, P4.4: rows of pieces, whole and cut off, against the other means.
func TestAgainstOtherMeans(t *testing.T) {
	pieces := []string{
		"null", "true", "false", "nul", "n", "t", "f", "u", "l", "e", "x", "[", "]", "{", "}", ",", ":", " ", "\t", "\n", "\r",
		"0", "1", "9", "-", "+", ".", "e", "E", "12", "0.5", "1e", "e+", "e-5", "-0", `"`, `"`, `"`, `\`, `\`, `\"`, `\\`, `\/`, `\n`, `\u`, `\u00`, `\u00e9`, `\ud`, `\ud8`, `\ud800`, `\udc`, `\udc00`, `\uDBFF\uDFFF`, `\ud7ff`, `\uE000`, `\ud83d\ude`,
		"a", "d", "8", "c", "é", "€", "😀", "\xc3", "\xa9", "\xe2", "\x82", "\xf0", "\x9f", "\xed", "\xa0", "\xff", "\x00", "\x1f", "\x7f", "/", "b",
	}
	c := chance(4)
	for range 30000 {
		var b []byte
		switch c.below(3) {
		case 0:
			b = append(b, '"')
		case 1:
			b = append(b, pieces[c.below(len(pieces))]...)
		}
		for range c.below(7) {
			b = append(b, pieces[c.below(len(pieces))]...)
		}
		agrees(t, b, c.below(min(len(b), 3)+1))
	}
}

// P4.1, P4.2: all rows of one and two bytes, alone and in a string.
func TestAllShortRows(t *testing.T) {
	for x := range 256 {
		agrees(t, []byte{byte(x)}, 0)
		agrees(t, []byte{'"', byte(x)}, 0)
		agrees(t, []byte{'"', '\\', byte(x), '"'}, 0)
		for y := range 256 {
			agrees(t, []byte{byte(x), byte(y)}, 0)
			agrees(t, []byte{'"', byte(x), byte(y), '"'}, 0)
		}
	}
}

// P4.4: the bad length is one more than that of a beginning that can be gone on with, of every beginning of a token and behind it.
func TestBeginnings(t *testing.T) {
	for s, want := range tokens() {
		if len(s) > 100 {
			continue
		}
		for n := 1; n < len(s); n++ {
			token, k, e := Next([]byte(s[:n]), 0)
			switch {
			case want.Kind == api.TokNumber && aNumber.MatchString(s[:n]):
				if token.Text != s[:n] || token.To != n || e != api.OK {
					t.Errorf("Next(%q) = %v, %d, %d", s[:n], token, k, e)
				}
			case token != (api.Token{}) || k != n+1 || e != api.ErrJSON:
				t.Errorf("Next(%q) = %v, %d, %d; want bad with %d", s[:n], token, k, e, n+1)
			}
			if !goesOn([]byte(s[:n])) {
				t.Errorf("%q cannot be gone on with", s[:n])
			}
		}
	}
}

// P4.3: how strings are written.
func TestQuote(t *testing.T) {
	for s, want := range map[string]string{
		"": `""`, "a": `"a"`, `"`: `"\""`, `\`: `"\\"`, `\"`: `"\\\""`, "/": `"/"`, "'": `"'"`, "a b": `"a b"`, "\x08\x0c\x0a\x0d\x09": `"\b\f\n\r\t"`,
		"\x00": `"\u0000"`, "\x01": `"\u0001"`, "\x07": `"\u0007"`, "\x0b": `"\u000b"`, "\x0e": `"\u000e"`, "\x0f": `"\u000f"`, "\x10": `"\u0010"`, "\x1a": `"\u001a"`, "\x1b": `"\u001b"`, "\x1f": `"\u001f"`, " ": `" "`, "\x7f": "\"\x7f\"",
		"é€😀": `"é€😀"`, "\u2028\u2029": "\"\u2028\u2029\"", "\u0080<>&": "\"\u0080<>&\"", "\uffff\U0010ffff": "\"\uffff\U0010ffff\"", "a\nb\x00c\"d\\": `"a\nb\u0000c\"d\\"`, `\u0041`: `"\\u0041"`,
	} {
		if got, e := Quote(s); got != want || e != api.OK {
			t.Errorf("Quote(%q) = %s, %d; want %s", s, got, e, want)
		}
	}
	for c := range 0x20 {
		want := map[int]string{8: `"\b"`, 12: `"\f"`, 10: `"\n"`, 13: `"\r"`, 9: `"\t"`}[c]
		if want == "" {
			want = fmt.Sprintf("\"\\u%04x\"", c)
		}
		if got, e := Quote(string(rune(c))); got != want || e != api.OK {
			t.Errorf("Quote(%d) = %s, %d; want %s", c, got, e, want)
		}
	}
}

// P4.3: what is no UTF-8 is not written.
func TestQuoteRefuses(t *testing.T) {
	for _, s := range []string{"\xff", "\x80", "a\xc3", "\xc3a", "\xc0\x80", "\xed\xa0\x80", "\xed\xb0\x80", "\xf4\x90\x80\x80", "\xf5", "\xe2\x82", "\xf0\x9f\x98", "\xe0\x9f\xbf", "\"\xff\"", strings.Repeat("a", 10000) + "\xe2"} {
		if got, e := Quote(s); got != "" || e != api.ErrUtf {
			t.Errorf("Quote(%s) = %s, %d", cut(s), cut(got), e)
		}
	}
}

// P4.4: what Quote writes is read as its text, to its end, and is what others read too.
func TestQuoteIsRead(t *testing.T) {
	check := func(s string) {
		t.Helper()
		q, e := Quote(s)
		if e != api.OK {
			t.Fatalf("Quote(%s): %d", cut(s), e)
		}
		reads(t, q, 0, api.Token{Kind: api.TokString, Text: s, To: len(q)})
		var other string
		if err := json.Unmarshal([]byte(q), &other); err != nil || other != s {
			t.Errorf("Quote(%s) = %s is read by others as %s (%v)", cut(s), cut(q), cut(other), err)
		}
	}
	for p := range rune(utf8.MaxRune + 1) {
		if utf8.ValidRune(p) && (p < 0x3000 || p%251 == 0) {
			check(string(p))
		}
	}
	c := chance(44)
	for range 2000 {
		var s []rune
		for range c.below(12) {
			s = append(s, []rune{rune(c.below(0x20)), rune(c.below(0x80)), '"', '\\', 'u', rune(c.below(0xd800)), rune(0xe000 + c.below(0x102000))}[c.below(7)])
		}
		check(string(s))
	}
	check(strings.Repeat("\x00\"é", 100000))
}

// R3: an answer is new memory, and what is handed in is not changed.
func TestNewMemory(t *testing.T) {
	for s, want := range map[string]string{`"abc"`: "abc", "123": "123", "null": "null", "[": "["} {
		b := []byte(s)
		token, _, _ := Next(b, 0)
		if string(b) != s {
			t.Errorf("Next changes %q to %q", s, b)
		}
		for i := range b {
			b[i] = 'z'
		}
		if token.Text != want {
			t.Errorf("the token of %q becomes %q", s, token.Text)
		}
	}
}

// R1: long texts, gone through token by token, end soon: no call reads more than its token.
func TestLongTexts(t *testing.T) {
	for _, unit := range []string{`"a",`, "1 ", "[", `"\u00e9\ud83d\ude00"`, "null"} {
		b := []byte(strings.Repeat(unit, api.MaxBytes/len(unit)))
		at, n := 0, 0
		for at < len(b) {
			token, _, e := Next(b, at)
			if e != api.OK {
				t.Fatalf("%q times %d: %d", unit, len(b)/len(unit), e)
			}
			at = token.To
			n++
		}
		if n < len(b)/len(unit) {
			t.Errorf("%q: %d tokens", unit, n)
		}
	}
	reads(t, strings.Repeat(" ", api.MaxBytes), 1, api.Token{Kind: api.TokEnd, From: api.MaxBytes, To: api.MaxBytes})
	isBad(t, `"`+strings.Repeat("a", api.MaxBytes), 0, api.MaxBytes+2)
}

// What is bad is an error of a type of its own, found also where it is wrapped, with its length.
func TestBadIsAnError(t *testing.T) {
	_, err := read([]byte("nux"), 0)
	var found bad
	if !errors.As(fmt.Errorf("wrapped: %w", err), &found) || found.length != 3 || badLength(fmt.Errorf("wrapped: %w", err)) != 3 {
		t.Errorf("read(nux): %v", err)
	}
	if !strings.Contains(err.Error(), "3") || badLength(errors.New("another")) != 0 {
		t.Errorf("%v", err)
	}
}
