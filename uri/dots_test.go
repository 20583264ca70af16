package uri

import (
	"slices"
	"strings"
	"testing"
)

// P8.2: the document's cases, one by one.
func TestDots(t *testing.T) {
	for path, want := range map[string]string{
		"":                   "",
		"/":                  "/",
		"//":                 "//",
		"a":                  "a",
		"/a":                 "/a",
		"a/":                 "a/",
		"a/b":                "a/b",
		".":                  "",
		"..":                 "",
		"./":                 "",
		"../":                "",
		"./.":                "",
		"../..":              "",
		"./../":              "",
		"../../a":            "a",
		"././a":              "a",
		"./a":                "a",
		"../a":               "a",
		"..//a":              "/a",
		".//a":               "/a",
		"/.":                 "/",
		"/..":                "/",
		"/./":                "/",
		"/../":               "/",
		"/./.":               "/",
		"/../..":             "/",
		"/../../../a":        "/a",
		"/./a":               "/a",
		"/../a":              "/a",
		"/a/.":               "/a/",
		"/a/..":              "/",
		"/a/./":              "/a/",
		"/a/../":             "/",
		"/a/../..":           "/",
		"/a/../../b":         "/b",
		"/a/b/..":            "/a/",
		"/a/b/../..":         "/",
		"/a/b/c/./../../g":   "/a/g",
		"mid/content=5/../6": "mid/6",
		"a/.":                "a/",
		"a/..":               "/",
		"a/../b":             "/b",
		"a/../../b":          "/b",
		"a/b/..":             "a/",
		"a/b/../..":          "/",
		"a/b/../c":           "a/c",
		"/a//..":             "/a/",
		"/a//../b":           "/a/b",
		"/a//":               "/a//",
		"//..":               "/",
		"//.":                "//",
		"//../a":             "/a",
		"/..//a":             "//a",
		"/.//a":              "//a",
		"...":                "...",
		"/...":               "/...",
		"/.../..":            "/",
		"/..a":               "/..a",
		"/a..":               "/a..",
		"/.a/b":              "/.a/b",
		"/a./b":              "/a./b",
		"..a":                "..a",
		".a":                 ".a",
		"a.":                 "a.",
		"a..":                "a..",
		".../a":              ".../a",
		"/%2e%2E/a":          "/%2e%2E/a",
		"/é/../\xff":         "/\xff",
		"?/../#":             "/#",
	} {
		if s := Dots(path); s != want {
			t.Errorf("Dots(%q) = %q; want %q", path, s, want)
		}
	}
}

// withoutDots is RFC 3986, 5.2.4, to the letter, with an input and an output buffer.
func withoutDots(in string) string {
	out := ""
	for in != "" {
		if rest, ok := strings.CutPrefix(in, "../"); ok {
			in = rest
		} else if rest, ok := strings.CutPrefix(in, "./"); ok {
			in = rest
		} else if rest, ok := strings.CutPrefix(in, "/./"); ok {
			in = "/" + rest
		} else if in == "/." {
			in = "/"
		} else if rest, ok := strings.CutPrefix(in, "/../"); ok {
			in, out = "/"+rest, out[:max(0, strings.LastIndex(out, "/"))]
		} else if in == "/.." {
			in, out = "/", out[:max(0, strings.LastIndex(out, "/"))]
		} else if in == "." || in == ".." {
			in = ""
		} else {
			segments := strings.SplitAfterN(in[1:], "/", 2)
			first := in[:1] + strings.TrimSuffix(segments[0], "/")
			in, out = in[len(first):], out+first
		}
	}
	return out
}

// P8.2: all short rows; what is left has no dot segment, so nothing goes a second time.
func TestDotsRows(t *testing.T) {
	for _, path := range rowsOf("/.a", 10) {
		s := Dots(path)
		if want := withoutDots(path); s != want {
			t.Fatalf("Dots(%q) = %q; want %q", path, s, want)
		}
		segments := strings.Split(s, "/")
		if slices.Contains(segments, ".") || slices.Contains(segments, "..") || Dots(s) != s {
			t.Fatalf("Dots(%q) = %q, with dots", path, s)
		}
	}
}

// R1: long paths take no time that grows faster than they do.
func TestDotsLong(t *testing.T) {
	const n = 1 << 20
	for _, c := range []struct{ path, want string }{
		{strings.Repeat("/..", n), "/"},
		{strings.Repeat("/.", n), "/"},
		{strings.Repeat("../", n), ""},
		{strings.Repeat("./", n), ""},
		{strings.Repeat("/a", n), strings.Repeat("/a", n)},
		{strings.Repeat("/a/..", n), "/"},
		{strings.Repeat("/a", n) + strings.Repeat("/..", n), "/"},
		{strings.Repeat("/a", n) + strings.Repeat("/..", n-1), "/a/"},
		{strings.Repeat("a", n) + strings.Repeat("/..", n), "/"},
		{strings.Repeat("/", n) + "..", strings.Repeat("/", n-1)},
	} {
		if s := Dots(c.path); s != c.want {
			t.Errorf("Dots(%s) = %s; want %s", cut(c.path), cut(s), cut(c.want))
		}
	}
}
