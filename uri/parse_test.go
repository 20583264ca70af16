package uri

import (
	"regexp"
	"strconv"
	"strings"
	"testing"

	"caliper/api"
)

// cut is a text short enough to tell.
func cut(s string) string {
	if len(s) > 60 {
		return strconv.Quote(s[:60]) + ".. (" + strconv.Itoa(len(s)) + " bytes)"
	}
	return strconv.Quote(s)
}

// rowsOf are all rows of at most so many of the letters, the empty one first.
func rowsOf(letters string, most int) []string {
	rows := []string{""}
	from := 0
	for range most {
		end := len(rows)
		for _, row := range rows[from:end] {
			for i := range len(letters) {
				rows = append(rows, row+letters[i:i+1])
			}
		}
		from = end
	}
	return rows
}

// whole is RFC 3986's own way to part a reference (appendix B).
var whole = regexp.MustCompile(`^(?s)(([^:/?#]+):)?(//([^/?#]*))?([^?#]*)(\?([^#]*))?(#(.*))?$`)

// The parts, one by one.
var (
	schemeForm    = regexp.MustCompile(`^([A-Za-z][A-Za-z0-9+.-]*)?$`)
	authorityForm = regexp.MustCompile(`^([A-Za-z0-9._~!$&'()*+,;=:@\[\]-]|%[0-9A-Fa-f]{2})*$`)
	pathForm      = regexp.MustCompile(`^([A-Za-z0-9._~!$&'()*+,;=:@/-]|%[0-9A-Fa-f]{2})*$`)
	restForm      = regexp.MustCompile(`^([A-Za-z0-9._~!$&'()*+,;=:@/?-]|%[0-9A-Fa-f]{2})*$`)
	colonFirst    = regexp.MustCompile(`^[^/]*:`)
)

// parsed is what Parse should answer, by regular expressions.
func parsed(s string) (api.Uri, api.Errno) {
	m := whole.FindStringSubmatch(s)
	u := api.Uri{Scheme: m[2], Authority: m[4], Path: m[5], Query: m[7], Fragment: m[9], HasAuthority: m[3] != "", HasQuery: m[6] != "", HasFragment: m[8] != ""}
	bad := !schemeForm.MatchString(u.Scheme) || !authorityForm.MatchString(u.Authority) || !pathForm.MatchString(u.Path) || !restForm.MatchString(u.Query) || !restForm.MatchString(u.Fragment)
	bad = bad || strings.HasPrefix(u.Path, "//") && !u.HasAuthority
	bad = bad || u.Scheme == "" && !u.HasAuthority && colonFirst.MatchString(u.Path)
	bad = bad || u.HasAuthority && u.Path != "" && u.Path[0] != '/'
	if bad {
		return api.Uri{}, api.ErrUri
	}
	return u, api.OK
}

// P8.1: the parts of a reference, and which are there.
func TestParse(t *testing.T) {
	cases := []struct {
		s string
		u api.Uri
	}{
		{"", api.Uri{}},
		{"#", api.Uri{HasFragment: true}},
		{"?", api.Uri{HasQuery: true}},
		{"?#", api.Uri{HasQuery: true, HasFragment: true}},
		{"#?", api.Uri{Fragment: "?", HasFragment: true}},
		{"#a?b/c:d@e", api.Uri{Fragment: "a?b/c:d@e", HasFragment: true}},
		{"??", api.Uri{Query: "?", HasQuery: true}},
		{"?a?b/c:d#e?f", api.Uri{Query: "a?b/c:d", HasQuery: true, Fragment: "e?f", HasFragment: true}},
		{"?//a", api.Uri{Query: "//a", HasQuery: true}},
		{"a", api.Uri{Path: "a"}},
		{"/", api.Uri{Path: "/"}},
		{"/a//b/", api.Uri{Path: "/a//b/"}},
		{"a//b", api.Uri{Path: "a//b"}},
		{"//", api.Uri{HasAuthority: true}},
		{"///", api.Uri{HasAuthority: true, Path: "/"}},
		{"////", api.Uri{HasAuthority: true, Path: "//"}},
		{"////a", api.Uri{HasAuthority: true, Path: "//a"}},
		{"//a", api.Uri{Authority: "a", HasAuthority: true}},
		{"//a/", api.Uri{Authority: "a", HasAuthority: true, Path: "/"}},
		{"//a?b", api.Uri{Authority: "a", HasAuthority: true, Query: "b", HasQuery: true}},
		{"//a#b", api.Uri{Authority: "a", HasAuthority: true, Fragment: "b", HasFragment: true}},
		{"//a:1/b:c", api.Uri{Authority: "a:1", HasAuthority: true, Path: "/b:c"}},
		{"//u:p@[::1]:80/x", api.Uri{Authority: "u:p@[::1]:80", HasAuthority: true, Path: "/x"}},
		{"//[]", api.Uri{Authority: "[]", HasAuthority: true}},
		{"//:", api.Uri{Authority: ":", HasAuthority: true}},
		{"x:", api.Uri{Scheme: "x"}},
		{"x:/", api.Uri{Scheme: "x", Path: "/"}},
		{"x:a", api.Uri{Scheme: "x", Path: "a"}},
		{"x:a:b", api.Uri{Scheme: "x", Path: "a:b"}},
		{"x::", api.Uri{Scheme: "x", Path: ":"}},
		{"x:?", api.Uri{Scheme: "x", HasQuery: true}},
		{"x:#", api.Uri{Scheme: "x", HasFragment: true}},
		{"x://", api.Uri{Scheme: "x", HasAuthority: true}},
		{"x:////a", api.Uri{Scheme: "x", HasAuthority: true, Path: "//a"}},
		{"X+-.9:y", api.Uri{Scheme: "X+-.9", Path: "y"}},
		{"z9:", api.Uri{Scheme: "z9"}},
		{"/a:b", api.Uri{Path: "/a:b"}},
		{"a/b:c", api.Uri{Path: "a/b:c"}},
		{"/:", api.Uri{Path: "/:"}},
		{"./a:b", api.Uri{Path: "./a:b"}},
		{"a?b:c", api.Uri{Path: "a", Query: "b:c", HasQuery: true}},
		{"a#b:c", api.Uri{Path: "a", Fragment: "b:c", HasFragment: true}},
		{"1a", api.Uri{Path: "1a"}},
		{"%41%fF%Ff", api.Uri{Path: "%41%fF%Ff"}},
		{"//%00?%7e#%09", api.Uri{Authority: "%00", HasAuthority: true, Query: "%7e", HasQuery: true, Fragment: "%09", HasFragment: true}},
		{"-._~!$&'()*+,;=@", api.Uri{Path: "-._~!$&'()*+,;=@"}},
		{"http://u@h.example:80/a/b;c=d?e=f&g#h", api.Uri{Scheme: "http", Authority: "u@h.example:80", HasAuthority: true, Path: "/a/b;c=d", Query: "e=f&g", HasQuery: true, Fragment: "h", HasFragment: true}},
		{"urn:example:a:b-c", api.Uri{Scheme: "urn", Path: "example:a:b-c"}},
		{"mailto:a@b", api.Uri{Scheme: "mailto", Path: "a@b"}},
		{"file:///a", api.Uri{Scheme: "file", HasAuthority: true, Path: "/a"}},
		{"https://json-schema.org/draft/2020-12/schema#/$defs/a~1b", api.Uri{Scheme: "https", Authority: "json-schema.org", HasAuthority: true, Path: "/draft/2020-12/schema", Fragment: "/$defs/a~1b", HasFragment: true}},
	}
	for _, c := range cases {
		if u, e := Parse(c.s); u != c.u || e != api.OK {
			t.Errorf("Parse(%q) = %+v, %d; want %+v", c.s, u, e, c.u)
		}
		if s := Text(c.u); s != c.s {
			t.Errorf("Text(%+v) = %q; want %q", c.u, s, c.s)
		}
	}
}

// P8.1: what is no reference has no parts.
func TestParseRefuses(t *testing.T) {
	for _, s := range []string{
		":", ":a", ":/", "://a", "::", ":a:b", ":?", ":#", "a b:c",
		"1:", "1a:b", "+a:b", "-a:", ".:", ".a:b", "a_b:c", "a~:", "a%41:b", "%41:b", "é:", "a@b:c", "a[:", "9x://h/p",
		"##", "#a#b", "a##", "?#a#", "x:#a#", "//a#b#c",
		" ", "a b", "a ", " a", "\t", "\n", "\x00", "\x7f", "\"", "<", ">", "\\", "^", "`", "{", "|", "}", "é", "\xff", "a\x80",
		"[", "]", "a[", "/[]", "x:[", "//a/[", "//a/]", "?[", "?]", "#[", "#]", "x://a?[", "x://a#]", "//a b", "//é",
		"%", "%4", "%4g", "%g4", "%%41", "a%", "/%4/1", "%4?1", "%4#1", "?%", "?%4", "?%4#1", "#%", "#%4", "#%zz", "//%", "//%4", "//%4/1", "//%4g", "x:%", "%-1", "%+1", "% 1", "%4\xff", "%@1", "%1@", "%G0", "%0G", "%`0", "%0:", "%/1", "%1/",
	} {
		if u, e := Parse(s); u != (api.Uri{}) || e != api.ErrUri {
			t.Errorf("Parse(%q) = %+v, %d; want ErrUri alone", s, u, e)
		}
		if Absolute(s) {
			t.Errorf("Absolute(%q)", s)
		}
	}
}

// P8.1: every byte at every part's begin, middle and end.
func TestParseEveryByte(t *testing.T) {
	count := 0
	for _, form := range []string{"_", "_a", "a_", "a_a", "_:", "_a:", "a_:", "a_a:b", "x:_", "x:_a", "x:a_b", "//_", "//_a", "//a_b/", "x://_/a?b#c", "//a/_", "//a/b_c", "/_", "/_a", "a/b_", "?_", "?a_b", "x:?_", "#_", "#a_b", "x:#_", "%_0", "%0_", "?%_a", "?%A_", "#%_f", "//%_F", "//%F_", "x:%0_%_0"} {
		for c := range 256 {
			s := strings.ReplaceAll(form, "_", string([]byte{byte(c)}))
			u, e := Parse(s)
			if want, errno := parsed(s); u != want || e != errno {
				t.Errorf("Parse(%q) = %+v, %d; want %+v, %d", s, u, e, want, errno)
			}
			if e == api.OK {
				count++
			}
		}
	}
	if count < 1000 {
		t.Errorf("%d of them were references only", count)
	}
}

// P8.1, P8.5: all short rows of the bytes that mean something, parted as regular expressions do it; Text comes back as it was.
func TestParseRows(t *testing.T) {
	for _, set := range []struct {
		letters string
		most    int
	}{{"a:/?#", 7}, {"a1%[:/?#", 5}, {"aG%/", 6}, {"a+1:/", 5}, {"x:/.é]#?@%2 ", 4}} {
		for _, s := range rowsOf(set.letters, set.most) {
			u, e := Parse(s)
			if want, errno := parsed(s); u != want || e != errno {
				t.Fatalf("Parse(%q) = %+v, %d; want %+v, %d", s, u, e, want, errno)
			}
			if e == api.OK && Text(u) != s {
				t.Fatalf("Text(Parse(%q)) = %q", s, Text(u))
			}
			if got, want := Absolute(s), e == api.OK && u.Scheme != "" && !u.HasFragment; got != want {
				t.Fatalf("Absolute(%q) = %t", s, got)
			}
		}
	}
}

// P8.1: Text writes each part that is there, empty or not, and none that is not.
func TestText(t *testing.T) {
	for bits := range 1 << 5 {
		for _, full := range []bool{true, false} {
			var u api.Uri
			want := ""
			fill := func(bit int, text, ahead, behind string, to *string, has *bool) {
				if bits>>bit&1 == 0 {
					return
				}
				if !full && has != nil {
					text = ""
				}
				*to = text
				if has != nil {
					*has = true
				}
				want += ahead + text + behind
			}
			fill(0, "sch", "", ":", &u.Scheme, nil)
			fill(1, "auth", "//", "", &u.Authority, &u.HasAuthority)
			fill(2, "/path", "", "", &u.Path, nil)
			fill(3, "query", "?", "", &u.Query, &u.HasQuery)
			fill(4, "frag", "#", "", &u.Fragment, &u.HasFragment)
			if s := Text(u); s != want {
				t.Errorf("Text(%+v) = %q; want %q", u, s, want)
			}
			if back, e := Parse(want); back != u || e != api.OK {
				t.Errorf("Parse(%q) = %+v, %d; want %+v", want, back, e, u)
			}
		}
	}
	if s := Text(api.Uri{Authority: "a", Path: "b", Query: "c", Fragment: "d"}); s != "b" {
		t.Errorf("Text of parts that are not there = %q", s)
	}
	if s := Text(api.Uri{Scheme: "1 ", Path: "é\xff", HasQuery: true, Query: "#"}); s != "1 :é\xff?#" {
		t.Errorf("Text of parts that may not be = %q", s)
	}
}

// R1: long texts.
func TestParseLong(t *testing.T) {
	for _, piece := range []string{"a", "/", "a/", ".", "%41", "a:", "?", "//"} {
		s := "/" + strings.Repeat(piece, 1<<20)
		u, e := Parse(s)
		if e != api.OK || Text(u) != s {
			t.Errorf("Parse(%s) = %d", cut(s), e)
		}
		if u, e := Parse(s + "%"); u != (api.Uri{}) || e != api.ErrUri {
			t.Errorf("Parse(%s %%) = %d", cut(s), e)
		}
	}
	scheme := strings.Repeat("a", 1<<20)
	if u, e := Parse(scheme + ":b"); u != (api.Uri{Scheme: scheme, Path: "b"}) || e != api.OK {
		t.Errorf("Parse of a long scheme: %d", e)
	}
	if _, e := Parse(strings.Repeat("#", 1<<20)); e != api.ErrUri {
		t.Errorf("Parse of many fragments: %d", e)
	}
}
