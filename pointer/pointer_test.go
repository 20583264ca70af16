package pointer

import (
	"regexp"
	"slices"
	"strconv"
	"strings"
	"testing"

	"caliper/api"
	"caliper/dec"
	"caliper/json"
)

// cut is a text, short enough to be told.
func cut(s string) string {
	if len(s) > 80 {
		return strconv.Quote(s[:40]) + ".." + strconv.Itoa(len(s)) + " bytes.." + strconv.Quote(s[len(s)-20:])
	}
	return strconv.Quote(s)
}

// chance is a row of numbers that look as if they had no rule, the same ones each time.
type chance uint64

func (c *chance) below(n int) int {
	*c = *c*6364136223846793005 + 1442695040888963407
	return int(uint64(*c)>>33) % n
}

// text is one of few pieces, those that an escape begins or ends with among them.
func (c *chance) text(pieces ...string) string {
	var out strings.Builder
	for range c.below(7) {
		out.WriteString(pieces[c.below(len(pieces))])
	}
	return out.String()
}

// The values that tests are made of.
func num(s string) api.Value {
	d, e := dec.Parse(s)
	if e != api.OK {
		panic(s)
	}
	return api.Value{Kind: api.Number, Num: d}
}

func text(s string) api.Value { return api.Value{Kind: api.String, Text: s} }

func list(vs ...api.Value) api.Value { return api.Value{Kind: api.Array, List: vs} }

func object(keys []string, vs ...api.Value) api.Value {
	return api.Value{Kind: api.Object, Keys: keys, List: vs}
}

func null() api.Value { return api.Value{Kind: api.Null} }

// read is the value of a text that is one.
func read(t *testing.T, s string) api.Value {
	t.Helper()
	v, _, e := json.Parse([]byte(s))
	if e != api.OK {
		t.Fatalf("Parse(%s): %d", cut(s), e)
	}
	return v
}

// same tells whether two values are the same in all fields and in order; nil and empty lists are.
func same(a api.Value, b api.Value) bool {
	return a.Kind == b.Kind && a.Num == b.Num && a.Text == b.Text && slices.Equal(a.Keys, b.Keys) && slices.EqualFunc(a.List, b.List, same)
}

// none tells whether a value is zero in all its fields.
func none(v api.Value) bool { return same(v, api.Value{}) }

// rowsOf are all texts of at most that many bytes, each one of the letters.
func rowsOf(letters string, most int) []string {
	all := []string{""}
	for from, n := 0, 0; n < most; n++ {
		end := len(all)
		for ; from < end; from++ {
			for i := range len(letters) {
				all = append(all, all[from]+letters[i:i+1])
			}
		}
	}
	return all
}

// P7.1: pointers and their parts, one way and back.
func TestParseAndText(t *testing.T) {
	cases := []struct {
		s     string
		parts []string
	}{
		{"", nil},
		{"/", []string{""}},
		{"//", []string{"", ""}},
		{"///", []string{"", "", ""}},
		{"/a", []string{"a"}},
		{"/a/", []string{"a", ""}},
		{"//a", []string{"", "a"}},
		{"/a//b", []string{"a", "", "b"}},
		{"/a/b/c", []string{"a", "b", "c"}},
		{"/a~1b/~01", []string{"a/b", "~1"}},
		{"/~0", []string{"~"}},
		{"/~1", []string{"/"}},
		{"/~00", []string{"~0"}},
		{"/~01", []string{"~1"}},
		{"/~10", []string{"/0"}},
		{"/~11", []string{"/1"}},
		{"/~0~1", []string{"~/"}},
		{"/~1~0", []string{"/~"}},
		{"/~0~0~01", []string{"~~~1"}},
		{"/~1~1", []string{"//"}},
		{"/~001", []string{"~01"}},
		{"/~1/~0/~1", []string{"/", "~", "/"}},
		{"/a~0b~1c/d", []string{"a~b/c", "d"}},
		{"/0/-/00/-1", []string{"0", "-", "00", "-1"}},
		{"/ /%25/a%2Fb/#", []string{" ", "%25", "a%2Fb", "#"}},
		{"/é/😀/\x00/\"", []string{"é", "😀", "\x00", "\""}},
		{"/$defs/a.b/\\", []string{"$defs", "a.b", "\\"}},
		{"/\xff~0\x80", []string{"\xff~\x80"}},
	}
	for _, c := range cases {
		if l, e := Parse(c.s); e != api.OK || !slices.Equal(l, c.parts) {
			t.Errorf("Parse(%q) = %q, %d; want %q", c.s, l, e, c.parts)
		}
		if s := Text(c.parts...); s != c.s {
			t.Errorf("Text(%q) = %q; want %q", c.parts, s, c.s)
		}
	}
	if s := Text([]string{}...); s != "" {
		t.Errorf("Text of an empty list = %q", s)
	}
}

// P7.1: what is no pointer, with no parts beside it, not even those ahead of the fault.
func TestParseRefuses(t *testing.T) {
	for _, s := range []string{
		"a", "a/b", "0", " ", " /a", "~", "~0", "~1/a", "#", "#/a", "%2Fa", "\\a", "-", ".", "é", "\x00", "\xff/a",
		"/~", "/~~", "/~2", "/~/", "/~9", "/~a", "/~-", "/~ ", "/~\x00", "/~\xff", "/~é", "/~%30", "/~~0", "/~~1",
		"/a~", "/a~/b", "/a/b~", "/a/b/~2", "/~0~", "/~1~", "/~01~", "/~0~2", "/~1/~", "//~", "/~//", "/~2/~0",
	} {
		if l, e := Parse(s); e != api.ErrPointer || len(l) != 0 {
			t.Errorf("Parse(%q) = %q, %d; want none, %d", s, l, e, api.ErrPointer)
		}
		if v, e := Find(object([]string{"a"}, null()), s); e != api.ErrPointer || !none(v) {
			t.Errorf("Find at %q = %v, %d; want none, %d", s, v, e, api.ErrPointer)
		}
	}
	for c := range 0x100 {
		want := api.ErrPointer
		if c == '0' || c == '1' {
			want = api.OK
		}
		if _, e := Parse("/a~" + string([]byte{byte(c)}) + "b"); e != want {
			t.Errorf("Parse of ~ and the byte %x = %d; want %d", c, e, want)
		}
		want = api.ErrPointer
		if c == '/' {
			want = api.OK
		}
		if _, e := Parse(string([]byte{byte(c), 'a'})); e != want {
			t.Errorf("Parse of the byte %x and a = %d; want %d", c, e, want)
		}
	}
}

// P7.1, P7.5: all short texts of the letters that count, held against a rule for pointers and replacements of Go's own.
func TestParseOfAllRows(t *testing.T) {
	rule := regexp.MustCompile(`^(/([^/~]|~[01])*)*$`)
	for _, s := range rowsOf("/~012a", 6) {
		l, e := Parse(s)
		if !rule.MatchString(s) {
			if e != api.ErrPointer || len(l) != 0 {
				t.Fatalf("Parse(%q) = %q, %d; want none, %d", s, l, e, api.ErrPointer)
			}
			continue
		}
		want := strings.Split(s, "/")[1:]
		for i, part := range want {
			want[i] = strings.ReplaceAll(strings.ReplaceAll(part, "~1", "/"), "~0", "~")
		}
		if e != api.OK || !slices.Equal(l, want) {
			t.Fatalf("Parse(%q) = %q, %d; want %q", s, l, e, want)
		}
		if back := Text(l...); back != s {
			t.Fatalf("Text(%q) = %q; want %q", l, back, s)
		}
	}
}

// P7.1, P7.5: parts come back, whatever they are.
func TestPartsComeBack(t *testing.T) {
	short := rowsOf("/~01a", 3)
	ask := func(parts ...string) {
		t.Helper()
		kept := slices.Clone(parts)
		s := Text(parts...)
		if l, e := Parse(s); e != api.OK || !slices.Equal(l, kept) {
			t.Fatalf("Parse(Text(%q)) = Parse(%q) = %q, %d", kept, s, l, e)
		}
		if !slices.Equal(parts, kept) {
			t.Fatalf("Text changed %q to %q", kept, parts)
		}
	}
	for _, a := range short {
		ask(a)
		for _, b := range short {
			ask(a, b)
		}
	}
	for c := range 0x100 {
		ask(string([]byte{byte(c)}), "~"+string([]byte{byte(c)})+"/")
	}
	c := chance(7)
	for range 5000 {
		parts := make([]string, c.below(6))
		for i := range parts {
			parts[i] = c.text("~", "/", "0", "1", "", "a", "é", "😀", "%7E", "\xff", "\x00")
		}
		ask(parts...)
	}
}

// P7.1: parts are two only if the pointer has two: what Text writes is one pointer's alone.
func TestTextsAreUnlike(t *testing.T) {
	seen := map[string][]string{}
	short := rowsOf("/~01", 2)
	ask := func(parts ...string) {
		s := Text(parts...)
		if other, ok := seen[s]; ok {
			t.Fatalf("Text(%q) and Text(%q) are both %q", other, parts, s)
		}
		seen[s] = parts
	}
	ask()
	for _, a := range short {
		ask(a)
		for _, b := range short {
			ask(a, b)
		}
	}
}

// P7.1, R1: pointers that are long, in one part or in many.
func TestLongPointers(t *testing.T) {
	const n = 1 << 20
	if l, e := Parse(strings.Repeat("/", n)); e != api.OK || len(l) != n || slices.Max(l) != "" {
		t.Errorf("Parse of many empty parts = %d of them, %d", len(l), e)
	}
	if s := Text(make([]string, n)...); s != strings.Repeat("/", n) {
		t.Errorf("Text of many empty parts = %s", cut(s))
	}
	if l, e := Parse("/" + strings.Repeat("~01", n)); e != api.OK || len(l) != 1 || l[0] != strings.Repeat("~1", n) {
		t.Errorf("Parse of a long part: %d parts, %d", len(l), e)
	}
	if l, e := Parse(strings.Repeat("/a", n) + "/~"); e != api.ErrPointer || len(l) != 0 {
		t.Errorf("Parse of a late fault: %d parts, %d", len(l), e)
	}
	if s := Text(strings.Repeat("/~", n)); s != "/"+strings.Repeat("~1~0", n) {
		t.Errorf("Text of a long part = %s", cut(s))
	}
}

// R3, R4: an answer is the caller's own, and the same call answers the same.
func TestPartsAreNew(t *testing.T) {
	first, _ := Parse("/a/b~1c/d")
	for i := range first[:cap(first)] {
		first[:cap(first)][i] = "spoilt"
	}
	if second, e := Parse("/a/b~1c/d"); e != api.OK || !slices.Equal(second, []string{"a", "b/c", "d"}) {
		t.Errorf("Parse answered %q, %d the second time", second, e)
	}
	room := []string{"a", "b", "c"}
	if s := Text(room[:2]...); s != "/a/b" || room[2] != "c" {
		t.Errorf("Text of two = %q; behind them stands %q", s, room[2])
	}
}
