package uri

import (
	"net/url"
	"strings"
	"testing"

	"caliper/api"
)

// must parses a reference that is one.
func must(t *testing.T, s string) api.Uri {
	t.Helper()
	u, e := Parse(s)
	if e != api.OK {
		t.Fatalf("Parse(%q) = %d", s, e)
	}
	return u
}

// P8.3, P8.4: the examples of the chapter and of RFC 3986, 5.4.
func TestJoinExamples(t *testing.T) {
	const base = "http://a/b/c/d;p?q"
	for s, want := range map[string]string{
		"g:h":           "g:h",
		"g":             "http://a/b/c/g",
		"./g":           "http://a/b/c/g",
		"g/":            "http://a/b/c/g/",
		"/g":            "http://a/g",
		"//g":           "http://g",
		"?y":            "http://a/b/c/d;p?y",
		"g?y":           "http://a/b/c/g?y",
		"#s":            "http://a/b/c/d;p?q#s",
		"g#s":           "http://a/b/c/g#s",
		"g?y#s":         "http://a/b/c/g?y#s",
		";x":            "http://a/b/c/;x",
		"g;x":           "http://a/b/c/g;x",
		"g;x?y#s":       "http://a/b/c/g;x?y#s",
		"":              "http://a/b/c/d;p?q",
		".":             "http://a/b/c/",
		"./":            "http://a/b/c/",
		"..":            "http://a/b/",
		"../":           "http://a/b/",
		"../g":          "http://a/b/g",
		"../..":         "http://a/",
		"../../":        "http://a/",
		"../../g":       "http://a/g",
		"../../../g":    "http://a/g",
		"../../../../g": "http://a/g",
		"/./g":          "http://a/g",
		"/../g":         "http://a/g",
		"g.":            "http://a/b/c/g.",
		".g":            "http://a/b/c/.g",
		"g..":           "http://a/b/c/g..",
		"..g":           "http://a/b/c/..g",
		"./../g":        "http://a/b/g",
		"./g/.":         "http://a/b/c/g/",
		"g/./h":         "http://a/b/c/g/h",
		"g/../h":        "http://a/b/c/h",
		"g;x=1/./y":     "http://a/b/c/g;x=1/y",
		"g;x=1/../y":    "http://a/b/c/y",
		"g?y/./x":       "http://a/b/c/g?y/./x",
		"g?y/../x":      "http://a/b/c/g?y/../x",
		"g#s/./x":       "http://a/b/c/g#s/./x",
		"g#s/../x":      "http://a/b/c/g#s/../x",
		"http:g":        "http:g",
	} {
		if x, e := Join(base, s); x != want || e != api.OK {
			t.Errorf("Join(%q, %q) = %q, %d; want %q", base, s, x, e, want)
		}
		if u := Resolve(must(t, base), must(t, s)); u != must(t, want) {
			t.Errorf("Resolve(%q, %q) = %+v; want %+v", base, s, u, must(t, want))
		}
	}
}

// P8.3, P8.4: bases with and without a path, a query, an authority.
func TestJoinBases(t *testing.T) {
	for _, c := range []struct{ base, s, want string }{
		{"http://a", "", "http://a"},
		{"http://a", "g", "http://a/g"},
		{"http://a", "./g", "http://a/g"},
		{"http://a", "../g", "http://a/g"},
		{"http://a", ".", "http://a/"},
		{"http://a", "..", "http://a/"},
		{"http://a", "/g", "http://a/g"},
		{"http://a", "?y", "http://a?y"},
		{"http://a", "#s", "http://a#s"},
		{"http://a", "g:h", "g:h"},
		{"http://a?q", "g", "http://a/g"},
		{"http://a?q", "", "http://a?q"},
		{"http://a?q", "?", "http://a?"},
		{"http://a?q", "#", "http://a?q#"},
		{"http://a?", "", "http://a?"},
		{"http://a?", "#s", "http://a?#s"},
		{"http://a/", "g", "http://a/g"},
		{"http://a/b", "g", "http://a/g"},
		{"http://a/b/", "g", "http://a/b/g"},
		{"http://a/b/?q", "?y#s", "http://a/b/?y#s"},
		{"http://a/b//c", "../g", "http://a/b/g"},
		{"http://a/b/../c", "", "http://a/b/../c"},
		{"http://a/b/../c", "?y", "http://a/b/../c?y"},
		{"http://a/b/../c", "#s", "http://a/b/../c#s"},
		{"http://a/b/../c", "g", "http://a/g"},
		{"http://a/b/./c?q", "//g/h/../i", "http://g/i"},
		{"http://a/b?q", "//", "http://"},
		{"http://a/b?q", "//?y", "http://?y"},
		{"http://a/b?q", "///c", "http:///c"},
		{"http://a/b?q", "//g#s", "http://g#s"},
		{"http://a/b?q", "x:", "x:"},
		{"http://a/b?q", "x:.", "x:"},
		{"http://a/b?q", "x:a/../../b?y#s", "x:/b?y#s"},
		{"http://a/b?q", "x://h/a/./b/..", "x://h/a/"},
		{"http://a/b?q", "x:?", "x:?"},
		{"http:///b", "g", "http:///g"},
		{"http://", "g", "http:///g"},
		{"http://", "", "http://"},
		{"http://", "/g", "http:///g"},
		{"x:", "", "x:"},
		{"x:", "g", "x:g"},
		{"x:", "./g", "x:g"},
		{"x:", "..", "x:"},
		{"x:", "/g", "x:/g"},
		{"x:", "//g", "x://g"},
		{"x:", "?y", "x:?y"},
		{"x:", "#s", "x:#s"},
		{"x:a", "g", "x:g"},
		{"x:a", "../g", "x:g"},
		{"x:a", "", "x:a"},
		{"x:a", "#s", "x:a#s"},
		{"x:a?q", "?", "x:a?"},
		{"x:a/b", "g", "x:a/g"},
		{"x:a/b", "..", "x:/"},
		{"x:a/b", "../g", "x:/g"},
		{"x:a/b", ".", "x:a/"},
		{"x:a:b", "c/d:e", "x:c/d:e"},
		{"x:a", "./d:e", "x:d:e"},
		{"x:/", "g", "x:/g"},
		{"x:/a/b", "../../g", "x:/g"},
		{"urn:example:root", "#/definitions/a", "urn:example:root#/definitions/a"},
		{"urn:example:root", "other", "urn:other"},
		{"https://json-schema.org/draft/2020-12/schema", "meta/core", "https://json-schema.org/draft/2020-12/meta/core"},
		{"http://u:p@[::1]:8/%41", "%2e/%2F", "http://u:p@[::1]:8/%2e/%2F"},
	} {
		if x, e := Join(c.base, c.s); x != c.want || e != api.OK {
			t.Errorf("Join(%q, %q) = %q, %d; want %q", c.base, c.s, x, e, c.want)
		}
		if u := Resolve(must(t, c.base), must(t, c.s)); u != must(t, c.want) {
			t.Errorf("Resolve(%q, %q) = %+v; want %+v", c.base, c.s, u, must(t, c.want))
		}
	}
}

// P8.3: a base without a scheme, and one with a fragment, which is nobody's.
func TestResolveAtAnyBase(t *testing.T) {
	for _, c := range []struct{ base, s, want string }{
		{"", "", ""},
		{"", "a/../b", "/b"},
		{"", "#s", "#s"},
		{"#f", "", ""},
		{"#f", "#", "#"},
		{"#f", "#s", "#s"},
		{"x:a#f", "", "x:a"},
		{"x:a#f", "b", "x:b"},
		{"x:a#f", "?y", "x:a?y"},
		{"x:a#f", "//b", "x://b"},
		{"x:a#f", "y:b", "y:b"},
		{"a/b", "c", "a/c"},
		{"a?q", "", "a?q"},
		{"a", "//b/./c", "//b/c"},
		{"//a", "b", "//a/b"},
		{"//a/b", "..", "//a/"},
		{"//a/b?q", "#s", "//a/b?q#s"},
	} {
		if u := Resolve(must(t, c.base), must(t, c.s)); u != must(t, c.want) {
			t.Errorf("Resolve(%q, %q) = %+v; want %+v", c.base, c.s, u, must(t, c.want))
		}
	}
	// What becomes a path with `//` at its begin stays one, though its text is read otherwise.
	if u := Resolve(must(t, "x:/a"), must(t, "/.//b")); u != (api.Uri{Scheme: "x", Path: "//b"}) {
		t.Errorf("Resolve to a path of two slashes = %+v", u)
	}
}

// P8.4: Join refuses what is no reference, and a base that is not absolute.
func TestJoinRefuses(t *testing.T) {
	for _, c := range [][2]string{
		{"", ""}, {"", "x:a"}, {"a", "x:a"}, {"/a", "b"}, {"//a/b", "c"}, {"?q", ""}, {"#", ""},
		{"x:a#", ""}, {"x:a#f", "b"}, {"x:a#f", "y:b"}, {"x:#", "b"}, {"http://a/b#", "c"},
		{":a", "b"}, {"1:a", "b"}, {"x:%", "b"}, {"x:[", "y:b"}, {"x: ", ""}, {"x:##", ""},
		{"x:a", ":"}, {"x:a", "%"}, {"x:a", "1:b"}, {"x:a", "##"}, {"x:a", "["}, {"x:a", " "}, {"x:a", "é"}, {"http://a/b", "//[ "}, {"x:a", ":b"},
		{"a", "%"}, {"%", "%"},
	} {
		if x, e := Join(c[0], c[1]); x != "" || e != api.ErrUri {
			t.Errorf("Join(%q, %q) = %q, %d; want ErrUri alone", c[0], c[1], x, e)
		}
	}
}

// P8.4: Absolute asks for a scheme, and for no fragment.
func TestAbsolute(t *testing.T) {
	for s, want := range map[string]bool{
		"x:": true, "x:a": true, "x:/a": true, "x://a": true, "x:?q": true, "x://a/b?q": true, "urn:a:b": true, "http://a/%41": true, "X+1.-:": true,
		"": false, "a": false, "/a": false, "//a": false, "?q": false, "#": false, "a/b:c": false, "/x:a": false, "?x:a": false,
		"x:#": false, "x:a#": false, "x:a#f": false, "x://a/b?q#f": false,
		"1x:a": false, ":a": false, "x:%": false, "x:[": false, "x:a b": false, "x://a[]": true, "x://a/[]": false,
	} {
		if Absolute(s) != want {
			t.Errorf("Absolute(%q) = %t", s, !want)
		}
	}
}

// P8.4: Bare parts any text at its first `#`.
func TestBare(t *testing.T) {
	for s, want := range map[string][2]string{
		"":             {"", ""},
		"a":            {"a", ""},
		"#":            {"", ""},
		"a#":           {"a", ""},
		"#b":           {"", "b"},
		"a#b":          {"a", "b"},
		"a#b#c":        {"a", "b#c"},
		"##":           {"", "#"},
		"a##b":         {"a", "#b"},
		"x:/?q#/a%20":  {"x:/?q", "/a%20"},
		"% é\xff#\x00": {"% é\xff", "\x00"},
		"a%23b":        {"a%23b", ""},
	} {
		if bare, fragment := Bare(s); bare != want[0] || fragment != want[1] {
			t.Errorf("Bare(%q) = %q, %q; want %q", s, bare, fragment, want)
		}
	}
	for _, s := range rowsOf("#a/", 6) {
		bare, fragment := Bare(s)
		parts := append(strings.SplitN(s, "#", 2), "")
		if bare != parts[0] || fragment != parts[1] {
			t.Errorf("Bare(%q) = %q, %q", s, bare, fragment)
		}
	}
}

// resolvedText is RFC 3986, 5.2.2 and 5.3, on texts, by the regular expression of appendix B.
func resolvedText(base, s string) string {
	b, r := whole.FindStringSubmatch(base), whole.FindStringSubmatch(s)
	out := r[1]
	if r[1] == "" {
		out = b[1]
	}
	switch {
	case r[1] != "" || r[3] != "":
		return out + r[3] + withoutDots(r[5]) + r[6] + r[8]
	case r[5] == "" && r[6] == "":
		return out + b[3] + b[5] + b[6] + r[8]
	case r[5] == "":
		return out + b[3] + b[5] + r[6] + r[8]
	case strings.HasPrefix(r[5], "/"):
		return out + b[3] + withoutDots(r[5]) + r[6] + r[8]
	case b[3] != "" && b[5] == "":
		return out + b[3] + withoutDots("/"+r[5]) + r[6] + r[8]
	}
	parts := strings.SplitAfter(b[5], "/")
	parts[len(parts)-1] = r[5]
	return out + b[3] + withoutDots(strings.Join(parts, "")) + r[6] + r[8]
}

// P8.3 to P8.5: all short bases and references, as the RFC puts them together; what comes out is absolute, but for its fragment; an empty reference is the base.
func TestJoinRows(t *testing.T) {
	var bases []string
	for _, row := range rowsOf("/.b?#:", 5) {
		bases = append(bases, "x:"+row)
	}
	references := rowsOf("/.a?#:", 4)
	joined := 0
	for i, base := range bases {
		for j, s := range references {
			if len(base) > 4 && len(s) > 2 && (i+j)%23 != 0 {
				continue
			}
			_, e1 := parsed(base)
			_, e2 := parsed(s)
			x, e := Join(base, s)
			if e1 != api.OK || e2 != api.OK || strings.Contains(base, "#") {
				if x != "" || e != api.ErrUri {
					t.Fatalf("Join(%q, %q) = %q, %d; want ErrUri", base, s, x, e)
				}
				continue
			}
			if want := resolvedText(base, s); x != want || e != api.OK {
				t.Fatalf("Join(%q, %q) = %q, %d; want %q", base, s, x, e, want)
			}
			bare, fragment := Bare(x)
			if _, f := Bare(s); !Absolute(bare) || f != fragment || strings.Contains(s, "#") != strings.Contains(x, "#") {
				t.Fatalf("Join(%q, %q) = %q, which is not absolute, or has another fragment", base, s, x)
			}
			if s == "" && x != base {
				t.Fatalf("Join(%q, %q) = %q", base, s, x)
			}
			joined++
		}
	}
	if joined < 100000 {
		t.Errorf("%d were joined only", joined)
	}
}

// P8.3: as the library resolves at ordinary bases, where it keeps to the RFC.
func TestJoinAsTheLibrary(t *testing.T) {
	for _, base := range []string{"http://h/x/y/z?q", "http://h/x/", "http://h"} {
		b, err := url.Parse(base)
		if err != nil {
			t.Fatal(err)
		}
		for _, row := range rowsOf("/.g", 7) {
			for _, s := range []string{row, row + "?k", row + "#f"} {
				if strings.Contains(s, "//") {
					continue
				}
				r, err := url.Parse(s)
				if err != nil {
					t.Fatal(err)
				}
				if x, e := Join(base, s); x != b.ResolveReference(r).String() || e != api.OK {
					t.Fatalf("Join(%q, %q) = %q, %d; want %q", base, s, x, e, b.ResolveReference(r))
				}
			}
		}
	}
}

// R1: parts that may not be, and parts that are long, are put together all the same.
func TestResolveWrongParts(t *testing.T) {
	parts := []string{"", "/", "..", "a b", "#?", "\xff"}
	for i := range len(parts) * len(parts) * 8 {
		u := api.Uri{Scheme: parts[i%6], Authority: parts[i/6%6], Path: parts[(i+3)%6], Query: parts[i/2%6], Fragment: parts[i/3%6], HasAuthority: i&1 != 0, HasQuery: i&2 != 0, HasFragment: i&4 != 0}
		for _, at := range []api.Uri{{}, u, {Path: "\xff/?"}, {HasAuthority: true}, {Authority: "x"}, {Scheme: ":", Query: "y"}} {
			kept := u
			if r := Resolve(at, u); len(Text(r)) > len(Text(at))+len(Text(u))+1 || u != kept {
				t.Errorf("Resolve(%+v, %+v) = %+v", at, u, r)
			}
			Resolve(u, at)
		}
	}
	long := strings.Repeat("a/../", 1<<18)
	if x, e := Join("x://h/"+long, long+"b"); x != "x://h/b" || e != api.OK {
		t.Errorf("Join of long paths = %s, %d", cut(x), e)
	}
}
