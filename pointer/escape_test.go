package pointer

import (
	"net/url"
	"regexp"
	"strconv"
	"strings"
	"testing"
	"unicode/utf8"

	"caliper/api"
)

// P7.3: percents read.
func TestUnescape(t *testing.T) {
	cases := map[string]string{
		"": "", "a": "a", "plain text": "plain text", "a%C3%A9": "aé", "a%c3%a9": "aé", "a%c3%A9": "aé", "a%C3%a9b": "aéb", "é": "é", "😀": "😀",
		"%00": "\x00", "%20": " ", "%25": "%", "%2541": "%41", "%25%34%31": "%41", "%2525": "%25", "%252": "%2", "%25zz": "%zz",
		"%41": "A", "%4a": "J", "%4A": "J", "%7e0": "~0", "%7E1": "~1", "%2F": "/", "%2f%2F": "//", "/a/b~01": "/a/b~01", "%7F": "\x7f",
		"%E2%82%AC": "€", "%f0%9f%98%80": "😀", "%F4%8F%BF%BF": "\U0010ffff", "%ED%9F%BF": "\ud7ff", "%EE%80%80": "\ue000", "%EF%BF%BD": "\ufffd", "%C2%80": "\u0080",
		"+": "+", "a+b": "a+b", "#": "#", "\x00": "\x00", "\"\\^`{|}<>[]": "\"\\^`{|}<>[]", "%23%22": "#\"", "9%399": "999", "a%61a": "aaa",
		// Half of a code point stands as it is, half is escaped.
		"\xc3%a9": "é", "%c3\xa9": "é",
	}
	for s, want := range cases {
		if got, e := Unescape(s); got != want || e != api.OK {
			t.Errorf("Unescape(%q) = %q, %d; want %q", s, got, e, want)
		}
	}
}

// P7.3: what may not be unescaped, with no text beside it.
func TestUnescapeRefuses(t *testing.T) {
	for _, s := range []string{
		"%", "a%", "%4", "a%4", "%%", "%%41", "%4%31", "%%34%31", "%g1", "%1g", "%G1", "%1G", "%-1", "%+1", "% 1", "%1 ", "%.1", "%1.", "%0x41", "%x41", "%u0041", "%\x00\x00", "%é", "%4é", "%４１", "%\xff\xff", "%/4", "%:4", "%@4", "%`4", "%4/", "%4:", "%4@", "%4`", "%_1", "%1_",
		"abc%", "abc%4", "%41%", "%41%4", "%41%zz", "%25%", "%2%35", "é%", "%C3%A9%",
		"%80", "%BF", "%FF", "%fe", "%C3", "a%C3", "%C3a", "%C3%28", "%E2%82", "%E2%28", "%F0%9F%98", "%C0%80", "%C1%BF", "%E0%9F%BF", "%F0%8F%BF%BF", "%ED%A0%80", "%ED%BF%BF", "%ED%A0%BD%ED%B8%80", "%F4%90%80%80", "%F5%80%80%80", "%C3%A9%A9", "%A9%C3",
		"\xff", "a\x80", "\xc3", "\xed\xa0\x80", "%41\xff", "\xff%41", "\xff%", "é%C3", "%C3é",
	} {
		if got, e := Unescape(s); got != "" || e != api.ErrPointer {
			t.Errorf("Unescape(%q) = %q, %d; want none, %d", s, got, e, api.ErrPointer)
		}
	}
}

// asksUnescape holds Unescape against Go's own.
func asksUnescape(t *testing.T, s string) {
	t.Helper()
	want, err := url.PathUnescape(s)
	errno := api.OK
	if err != nil || !utf8.ValidString(want) {
		want, errno = "", api.ErrPointer
	}
	if got, e := Unescape(s); got != want || e != errno {
		t.Fatalf("Unescape(%q) = %q, %d; want %q, %d", s, got, e, want, errno)
	}
}

// P7.3: a percent and all rows of two bytes, ahead of bytes that may follow in a code point and behind those that may begin one: a wrong digit must not pass as another.
func TestUnescapeAllPairs(t *testing.T) {
	for high := range 0x100 {
		for low := range 0x100 {
			pair := "%" + string([]byte{byte(high), byte(low)})
			for _, tail := range []string{"", "b", "%80", "%A0%80", "%8F%BF%BF"} {
				asksUnescape(t, "a"+pair+tail)
			}
			for _, head := range []string{"%C3", "%E2%82", "%F0%9F%98"} {
				asksUnescape(t, head+pair)
			}
		}
	}
}

// P7.3: short texts of the letters that count, and others without a rule.
func TestUnescapeOfAllRows(t *testing.T) {
	for _, s := range rowsOf("%25Cag", 6) {
		asksUnescape(t, s)
	}
	c := chance(73)
	for range 20000 {
		asksUnescape(t, c.text("%", "%C3", "%A9", "%e2%82", "%aC", "%80", "%F0%9f", "%98", "%ed", "%a0", "é", "\xc3", "\xa9", "4", "1", "f", "G", "", "%25", "%00"))
	}
}

// plain are the bytes that Escape leaves, as the document lists them.
const plain = "abcdefghijklmnopqrstuvwxyz" + "ABCDEFGHIJKLMNOPQRSTUVWXYZ" + "0123456789" + "-" + "." + "_" + "~" + "!" + "$" + "&" + "'" + "(" + ")" + "*" + "+" + "," + ";" + "=" + ":" + "@" + "/" + "?"

// P7.3: every byte, alone and among others.
func TestEscapeBytes(t *testing.T) {
	left := 0
	for c := range 0x100 {
		s := string([]byte{byte(c)})
		want := "%" + strings.ToUpper(strconv.FormatInt(int64(c)+0x100, 16)[1:])
		if strings.Contains(plain, s) {
			want = s
			left++
		}
		if got := Escape(s); got != want {
			t.Errorf("Escape of the byte %x = %q; want %q", c, got, want)
		}
		if got := Escape("a" + s + s + "%" + s); got != "a"+want+want+"%25"+want {
			t.Errorf("Escape of the byte %x among others = %q", c, got)
		}
	}
	if left != 26+26+10+19 {
		t.Errorf("%d bytes are left as they are", left)
	}
}

// P7.3: texts as fragments.
func TestEscape(t *testing.T) {
	cases := map[string]string{
		"": "", plain: plain, "aé": "a%C3%A9", "😀": "%F0%9F%98%80", "%": "%25", "%41": "%2541", "%25": "%2525", "a b": "a%20b", "#": "%23",
		"/$defs/a~1b": "/$defs/a~1b", "/a b/\"": "/a%20b/%22", "\x00\x7f\x1f": "%00%7F%1F", "[]{}<>|\\^`": "%5B%5D%7B%7D%3C%3E%7C%5C%5E%60",
		"\xff\x80": "%FF%80", "\xc3": "%C3", "²": "%C2%B2", "ａ": "%EF%BD%81",
	}
	for s, want := range cases {
		if got := Escape(s); got != want {
			t.Errorf("Escape(%q) = %q; want %q", s, got, want)
		}
	}
}

// P7.5: a text comes back by Unescape; what is no text is refused there. What Escape writes has a fragment's bytes alone.
func TestEscapeComesBack(t *testing.T) {
	fragment := regexp.MustCompile(`^([-._~!$&'()*+,;=:@/?a-zA-Z0-9]|%[0-9A-F]{2})*$`)
	ask := func(s string) {
		t.Helper()
		escaped := Escape(s)
		if !fragment.MatchString(escaped) {
			t.Fatalf("Escape(%q) = %q", s, escaped)
		}
		want, errno := s, api.OK
		if !utf8.ValidString(s) {
			want, errno = "", api.ErrPointer
		}
		if got, e := Unescape(escaped); got != want || e != errno {
			t.Fatalf("Unescape(Escape(%q)) = Unescape(%q) = %q, %d", s, escaped, got, e)
		}
	}
	for p := range rune(0x110000) {
		if utf8.ValidRune(p) {
			ask(string(p))
		}
	}
	for i := range 0x10000 {
		ask(string([]byte{byte(i >> 8), byte(i)}))
	}
	for _, s := range rowsOf("%25a/~", 5) {
		ask(s)
	}
	c := chance(75)
	for range 20000 {
		ask(c.text("%", "25", "é", "\xc3", "\xa9", "😀", " ", "/", "~0", "#", "", "a", "\x00"))
	}
}

// P7.3, R1: long texts.
func TestLongEscapes(t *testing.T) {
	const n = 1 << 20
	long, codes := strings.Repeat("é%", n), strings.Repeat("%C3%A9%25", n)
	if s := Escape(long); s != codes {
		t.Errorf("Escape of a long text = %s", cut(s))
	}
	if s, e := Unescape(codes); s != long || e != api.OK {
		t.Errorf("Unescape of a long text = %s, %d", cut(s), e)
	}
	for _, late := range []string{"%", "%4", "%zz", "%C3", "\xff"} {
		if s, e := Unescape(codes + late); s != "" || e != api.ErrPointer {
			t.Errorf("Unescape of a late %q = %s, %d", late, cut(s), e)
		}
	}
}
