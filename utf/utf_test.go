package utf

import (
	"bytes"
	"math"
	"slices"
	"testing"

	"caliper/api"
)

// P1.1: how far bytes begin a valid text.
func TestGood(t *testing.T) {
	cases := []struct {
		name string
		b    []byte
		n    int
		ok   bool
	}{
		{"nil", nil, 0, true},
		{"empty", []byte{}, 0, true},
		{"one byte", []byte{0x00}, 1, true},
		{"plain", []byte("plain"), 5, true},
		{"mixed", []byte("a\u00e9\u20ac\U0001f600"), 10, true},
		{"replacement character", []byte{0xef, 0xbf, 0xbd}, 3, true},
		{"noncharacter", []byte{0xef, 0xbf, 0xbf}, 3, true},

		{"greatest of one byte", []byte{0x7f}, 1, true},
		{"least of two", []byte{0xc2, 0x80}, 2, true},
		{"greatest of two", []byte{0xdf, 0xbf}, 2, true},
		{"least of three", []byte{0xe0, 0xa0, 0x80}, 3, true},
		{"greatest of three", []byte{0xef, 0xbf, 0xbf}, 3, true},
		{"least of four", []byte{0xf0, 0x90, 0x80, 0x80}, 4, true},
		{"greatest of four", []byte{0xf4, 0x8f, 0xbf, 0xbf}, 4, true},

		{"above the greatest of four", []byte{0xf4, 0x90, 0x80, 0x80}, 1, false},
		{"far above", []byte{0xf5, 0x80, 0x80, 0x80}, 0, false},
		{"five bytes", []byte{0xf8, 0x88, 0x80, 0x80, 0x80}, 0, false},
		{"byte ff", []byte{0xff}, 0, false},

		{"nought in two", []byte{0xc0, 0x80}, 0, false},
		{"7f in two", []byte{0xc1, 0xbf}, 0, false},
		{"7ff in three", []byte{0xe0, 0x9f, 0xbf}, 1, false},
		{"ffff in four", []byte{0xf0, 0x8f, 0xbf, 0xbf}, 1, false},

		{"below the surrogates", []byte{0xed, 0x9f, 0xbf}, 3, true},
		{"first high surrogate", []byte{0xed, 0xa0, 0x80}, 1, false},
		{"last low surrogate", []byte{0xed, 0xbf, 0xbf}, 1, false},
		{"above the surrogates", []byte{0xee, 0x80, 0x80}, 3, true},

		{"cut of two", []byte{0xc2}, 1, false},
		{"cut of three, one", []byte{0xe2}, 1, false},
		{"cut of three, two", []byte{0xe2, 0x82}, 2, false},
		{"cut of four, one", []byte{0xf0}, 1, false},
		{"cut of four, two", []byte{0xf0, 0x9f}, 2, false},
		{"cut of four, three", []byte{0xf0, 0x9f, 0x98}, 3, false},
		{"cut where a surrogate might come", []byte{0xed}, 1, false},
		{"cut where too much might come", []byte{0xf4}, 1, false},

		{"broken off by a plain byte", []byte{0xe2, 0x28}, 1, false},
		{"broken off late", []byte{0xf0, 0x9f, 0x98, 0x28}, 3, false},
		{"broken off by a first byte", []byte{0xe2, 0x82, 0xe2}, 2, false},
		{"follower alone", []byte{0x80}, 0, false},
		{"last follower alone", []byte{0xbf}, 0, false},
		{"follower behind a whole one", []byte{'a', 0x80}, 1, false},
		{"bad behind good", []byte{'a', 0xe2, 0x82, 0xac, 0xff, 'b'}, 4, false},
		{"cut behind good", []byte{'a', 0xe2, 0x82, 0xac, 0xe2, 0x82}, 6, false},
	}
	for _, c := range cases {
		before := bytes.Clone(c.b)
		if n, ok := Good(c.b); n != c.n || ok != c.ok {
			t.Errorf("%s: Good(% x) = %d, %v; want %d, %v", c.name, c.b, n, ok, c.n, c.ok)
		}
		if !bytes.Equal(before, c.b) {
			t.Errorf("%s: Good changed % x to % x", c.name, before, c.b)
		}
	}
}

// beginnings answers all beginnings of all code points' forms, with those that are whole marked.
// The forms are Go's own, so that nothing of the package is its own witness.
func beginnings() map[string]bool {
	all := map[string]bool{}
	for p := rune(0); p <= 0x10ffff; p++ {
		if p >= 0xd800 && p <= 0xdfff {
			continue
		}
		form := string(p)
		for n := 1; n < len(form); n++ {
			all[form[:n]] = false
		}
		all[form] = true
	}
	return all
}

// wanted works Good out by taking beginnings away, one whole one after the other.
func wanted(all map[string]bool, b []byte) (int, bool) {
	at := 0
	for at < len(b) {
		n := 0
		for at+n < len(b) {
			whole, begins := all[string(b[at:at+n+1])]
			if !begins {
				return at + n, false
			}
			n++
			if whole {
				break
			}
		}
		if !all[string(b[at:at+n])] {
			return at + n, false
		}
		at += n
	}
	return at, true
}

// P1.1: at rows of all bytes, and of those at which something ends or begins.
func TestGoodOfAllRows(t *testing.T) {
	all := beginnings()
	ask := func(b []byte) {
		n, ok := Good(b)
		if wn, wok := wanted(all, b); n != wn || ok != wok {
			t.Fatalf("Good(% x) = %d, %v; want %d, %v", b, n, ok, wn, wok)
		}
	}
	for i := range 0x10000 {
		ask([]byte{byte(i >> 8)})
		ask([]byte{byte(i >> 8), byte(i)})
	}
	edges := []byte{
		0x00, 0x7f, 0x80, 0x8f, 0x90, 0x9f, 0xa0, 0xbf, 0xc0, 0xc1, 0xc2, 0xdf, 0xe0, 0xe1,
		0xec, 0xed, 0xee, 0xef, 0xf0, 0xf1, 0xf3, 0xf4, 0xf5, 0xf7, 0xf8, 0xff,
	}
	for _, a := range edges {
		for _, b := range edges {
			for _, c := range edges {
				ask([]byte{a, b, c})
				for _, d := range edges {
					ask([]byte{a, b, c, d})
				}
			}
		}
	}
}

// P1.1: the code points of a valid text.
func TestPoints(t *testing.T) {
	cases := []struct {
		b    []byte
		want []int
	}{
		{nil, nil},
		{[]byte{}, nil},
		{[]byte("ab"), []int{'a', 'b'}},
		{[]byte("\x00"), []int{0}},
		{[]byte("a\u20ac"), []int{'a', 0x20ac}},
		{[]byte("\x7f\u0080\u07ff\u0800\uffff\U00010000\U0010ffff"), []int{0x7f, 0x80, 0x7ff, 0x800, 0xffff, 0x10000, 0x10ffff}},
		{[]byte("\ufffd"), []int{0xfffd}},
		{[]byte("\ud7ff\ue000"), []int{0xd7ff, 0xe000}},
	}
	for _, c := range cases {
		before := bytes.Clone(c.b)
		if l, e := Points(c.b); e != api.OK || !slices.Equal(l, c.want) {
			t.Errorf("Points(% x) = %x, %d; want %x", c.b, l, e, c.want)
		}
		if !bytes.Equal(before, c.b) {
			t.Errorf("Points changed % x to % x", before, c.b)
		}
	}
}

// P1.1: what is not valid has no code points, not even those ahead of its fault.
func TestPointsRefuses(t *testing.T) {
	for _, b := range [][]byte{
		{0xff},
		{0x80},
		{'a', 0xe2, 0x82},
		{0xc0, 0x80},
		{0xe0, 0x9f, 0xbf},
		{0xf0, 0x8f, 0xbf, 0xbf},
		{0xed, 0xa0, 0x80},
		{0xed, 0xa0, 0xbd, 0xed, 0xb8, 0x80},
		{0xf4, 0x90, 0x80, 0x80},
		{'a', 'b', 0xff, 'c'},
	} {
		if l, e := Points(b); e != api.ErrUtf || len(l) != 0 {
			t.Errorf("Points(% x) = %x, %d; want none, %d", b, l, e, api.ErrUtf)
		}
	}
}

// P1.2: the forms, behind what stands there.
func TestPut(t *testing.T) {
	cases := []struct {
		out  []byte
		p    int
		want []byte
	}{
		{nil, 0, []byte{0}},
		{[]byte{}, 'a', []byte("a")},
		{[]byte("ab"), 'c', []byte("abc")},
		{[]byte{0xff}, 'c', []byte{0xff, 'c'}},
		{[]byte("a"), 0x7f, []byte{'a', 0x7f}},
		{[]byte("a"), 0x80, []byte{'a', 0xc2, 0x80}},
		{nil, 0x7ff, []byte{0xdf, 0xbf}},
		{nil, 0x800, []byte{0xe0, 0xa0, 0x80}},
		{nil, 0x20ac, []byte{0xe2, 0x82, 0xac}},
		{nil, 0xd7ff, []byte{0xed, 0x9f, 0xbf}},
		{nil, 0xe000, []byte{0xee, 0x80, 0x80}},
		{nil, 0xffff, []byte{0xef, 0xbf, 0xbf}},
		{nil, 0x10000, []byte{0xf0, 0x90, 0x80, 0x80}},
		{nil, 0x1f600, []byte{0xf0, 0x9f, 0x98, 0x80}},
		{nil, 0x10ffff, []byte{0xf4, 0x8f, 0xbf, 0xbf}},
	}
	for _, c := range cases {
		before := bytes.Clone(c.out)
		if b, e := Put(c.out, c.p); e != api.OK || !bytes.Equal(b, c.want) {
			t.Errorf("Put(% x, %x) = % x, %d; want % x", c.out, c.p, b, e, c.want)
		}
		if !bytes.Equal(before, c.out) {
			t.Errorf("Put changed % x to % x", before, c.out)
		}
	}
}

// P1.2: what is no code point.
func TestPutRefuses(t *testing.T) {
	for _, p := range []int{-1, math.MinInt, 0xd800, 0xdbff, 0xdc00, 0xdfff, 0x110000, 0x200000, 1 << 32, math.MaxInt} {
		if b, e := Put([]byte("a"), p); e != api.ErrArg || len(b) != 0 {
			t.Errorf("Put(a, %x) = % x, %d; want none, %d", p, b, e, api.ErrArg)
		}
	}
}

// P1.2: the answer is new memory, whatever room out has behind its end.
func TestPutIsNewMemory(t *testing.T) {
	for _, p := range []int{'b', 0xe9, 0x20ac, 0x1f600} {
		room := []byte("a.......")
		b, _ := Put(room[:1], p)
		if string(room) != "a......." {
			t.Errorf("Put of %x wrote behind the end: %q", p, room)
		}
		b[0] = 'x'
		if room[0] != 'a' {
			t.Errorf("Put of %x answers memory of out", p)
		}
		one, _ := Put(room[:1], p)
		two, _ := Put(room[:1], 'c')
		if two[1] = 'd'; one[1] == 'd' {
			t.Errorf("two answers of Put share memory")
		}
	}
}

// P1.2: pairs, at their edges.
func TestPair(t *testing.T) {
	cases := []struct {
		high, low, p int
		e            api.Errno
	}{
		{0xd83d, 0xde00, 0x1f600, api.OK},
		{0xd800, 0xdc00, 0x10000, api.OK},
		{0xd800, 0xdfff, 0x103ff, api.OK},
		{0xd801, 0xdc00, 0x10400, api.OK},
		{0xdbff, 0xdc00, 0x10fc00, api.OK},
		{0xdbff, 0xdfff, 0x10ffff, api.OK},
		{0xd7ff, 0xdc00, 0, api.ErrPair},
		{0xdc00, 0xdc00, 0, api.ErrPair},
		{0xd800, 0xdbff, 0, api.ErrPair},
		{0xd800, 0xe000, 0, api.ErrPair},
		{0xde00, 0xd83d, 0, api.ErrPair},
		{0xd83d, 0xd83d, 0, api.ErrPair},
		{0, 0, 0, api.ErrPair},
		{-0xd800, 0xdc00, 0, api.ErrPair},
		{0xd800, -0xdc00, 0, api.ErrPair},
		{0x1d800, 0x1dc00, 0, api.ErrPair},
		{math.MinInt, math.MinInt, 0, api.ErrPair},
		{math.MaxInt, math.MaxInt, 0, api.ErrPair},
	}
	for _, c := range cases {
		if p, e := Pair(c.high, c.low); p != c.p || e != c.e {
			t.Errorf("Pair(%x, %x) = %x, %d; want %x, %d", c.high, c.low, p, e, c.p, c.e)
		}
	}
}

// P1.2: the two that make a code point, at the edges.
func TestSplit(t *testing.T) {
	cases := []struct {
		p, high, low int
		e            api.Errno
	}{
		{0x1f600, 0xd83d, 0xde00, api.OK},
		{0x10000, 0xd800, 0xdc00, api.OK},
		{0x103ff, 0xd800, 0xdfff, api.OK},
		{0x10400, 0xd801, 0xdc00, api.OK},
		{0x10ffff, 0xdbff, 0xdfff, api.OK},
		{0xffff, 0, 0, api.ErrArg},
		{0x110000, 0, 0, api.ErrArg},
		{0xd800, 0, 0, api.ErrArg},
		{'a', 0, 0, api.ErrArg},
		{0, 0, 0, api.ErrArg},
		{-1, 0, 0, api.ErrArg},
		{-0x10000, 0, 0, api.ErrArg},
		{math.MinInt, 0, 0, api.ErrArg},
		{math.MaxInt, 0, 0, api.ErrArg},
	}
	for _, c := range cases {
		if high, low, e := Split(c.p); high != c.high || low != c.low || e != c.e {
			t.Errorf("Split(%x) = %x, %x, %d; want %x, %x, %d", c.p, high, low, e, c.high, c.low, c.e)
		}
	}
}

// P1.2: Pair takes back what Split did, at every code point that has two.
func TestSplitAndPair(t *testing.T) {
	for p := 0x10000; p <= 0x10ffff; p++ {
		high, low, e := Split(p)
		if e != api.OK {
			t.Fatalf("Split(%x): %d", p, e)
		}
		if q, e := Pair(high, low); q != p || e != api.OK {
			t.Fatalf("Pair(%x, %x) = %x, %d; want %x", high, low, q, e, p)
		}
	}
}

// P1.3: bytes that are not from 80 to bf, valid text or not.
func TestCount(t *testing.T) {
	cases := []struct {
		s string
		n int
	}{
		{"", 0},
		{"\x00", 1},
		{"abc", 3},
		{"a\u00e9\u20ac\U0001f600", 4},
		{"\x7f\x80", 1},
		{"\x80", 0},
		{"\xbf\xbf\xbf", 0},
		{"\xbf\xc0", 1},
		{"\xc0\xc1\xf5\xff", 4},
		{"\xe2\x82", 1},
		{"\xed\xa0\x80", 1},
		{"a\x80\x80b", 2},
	}
	for _, c := range cases {
		if n := Count(c.s); n != c.n {
			t.Errorf("Count(%q) = %d; want %d", c.s, n, c.n)
		}
	}
	for c := range 0x100 {
		want := 1
		if c >= 0x80 && c <= 0xbf {
			want = 0
		}
		if n := Count(string([]byte{byte(c)})); n != want {
			t.Errorf("Count of the byte %x = %d; want %d", c, n, want)
		}
	}
}

// P1.3: texts in their order, each ahead of all that follow: bytes count, valid or not, and they are without a sign.
func TestCompare(t *testing.T) {
	rising := []string{
		"", "\x00", "\x00\x00", "A", "a", "a\x00", "aa", "ab", "b", "\x7f", "\x80", "\xbf",
		"\u0080", "\u00e9", "\u07ff", "\u0800", "\ud7ff", "\xed\xa0\x80", "\ue000", "\uffff",
		"\U00010000", "\U0010ffff", "\xf5", "\xff", "\xff\x00",
	}
	for i, a := range rising {
		for k, b := range rising {
			want := 0
			if i < k {
				want = -1
			} else if i > k {
				want = 1
			}
			if c := Compare(a, b); c != want {
				t.Errorf("Compare(%q, %q) = %d; want %d", a, b, c, want)
			}
		}
	}
}

// P1.4: every code point is put, read, and put again; each has one byte that Count counts.
func TestPointsPutAreTheText(t *testing.T) {
	for p := range 0x110000 {
		b, e := Put(nil, p)
		if p >= 0xd800 && p <= 0xdfff {
			if e != api.ErrArg {
				t.Fatalf("Put took the surrogate %x", p)
			}
			continue
		}
		if string(b) != string(rune(p)) {
			t.Fatalf("Put of %x = % x", p, b)
		}
		if l, e := Points(b); e != api.OK || len(l) != 1 || l[0] != p {
			t.Fatalf("Points(% x) = %x, %d; want %x", b, l, e, p)
		}
		if n := Count(string(b)); n != 1 {
			t.Fatalf("Count of %x = %d", p, n)
		}
	}
}

// texts is a short list of valid texts, with neighbours that differ in one code point, or in their length.
func texts() []string {
	points := []rune{0, 'a', 0x7f, 0x80, 0x7ff, 0x800, 0xd7ff, 0xe000, 0xfffd, 0xffff, 0x10000, 0x1f600, 0x10ffff}
	all := []string{"", "plain", "a\u00e9\u20ac\U0001f600"}
	for _, p := range points {
		all = append(all, string(p))
		for _, q := range points {
			all = append(all, string([]rune{p, q}), string([]rune{'a', p, q, 'z'}))
		}
	}
	return all
}

// P1.4: texts of several code points: put together they are the text, and Count is their number.
func TestTextsFromTheirPoints(t *testing.T) {
	for _, s := range texts() {
		l, e := Points([]byte(s))
		if e != api.OK || Count(s) != len(l) {
			t.Fatalf("Points(%q) = %x, %d; Count %d", s, l, e, Count(s))
		}
		var b []byte
		for _, p := range l {
			b, _ = Put(b, p)
		}
		if string(b) != s {
			t.Errorf("the points of %q, put together, are %q", s, b)
		}
	}
}

// P1.4: of valid texts Compare compares the code points.
func TestCompareIsByPoints(t *testing.T) {
	all := texts()
	for _, a := range all {
		for _, b := range all {
			l, _ := Points([]byte(a))
			m, _ := Points([]byte(b))
			if c := Compare(a, b); c != slices.Compare(l, m) {
				t.Fatalf("Compare(%q, %q) = %d; by code points %d", a, b, c, slices.Compare(l, m))
			}
		}
	}
}

// R4: the same call on the same arguments answers the same.
func TestSameAnswers(t *testing.T) {
	b := []byte("a\u20ac")
	first, _ := Points(b)
	first[0] = -1
	if second, _ := Points(b); !slices.Equal(second, []int{'a', 0x20ac}) {
		t.Errorf("Points answered %x the second time", second)
	}
}
