package rx

import (
	"math"
	"slices"
	"strings"
	"testing"
	"unicode/utf8"

	"caliper/api"
)

// levels is how many levels a tree has.
func levels(x api.Rx) int {
	most := 0
	for _, sub := range x.Sub {
		most = max(most, levels(sub))
	}
	return most + 1
}

// surrogateEnds tells whether some range begins or ends with a surrogate.
func surrogateEnds(x api.Rx) bool {
	surrogate := func(p int) bool { return p >= 0xd800 && p <= 0xdfff }
	return slices.ContainsFunc(x.Ranges, func(r api.Range) bool { return surrogate(r.From) || surrogate(r.To) }) || slices.ContainsFunc(x.Sub, surrogateEnds)
}

// comesBack asks that Parse makes a tree of what Text writes of it, where the document promises that; it tells whether it does.
func comesBack(t *testing.T, x api.Rx) bool {
	t.Helper()
	s, e := Text(x)
	if e != api.OK || !utf8.ValidString(s) {
		t.Fatalf("Text(%v): %s, %d", x, cut(s), e)
	}
	if levels(x) > 100 || surrogateEnds(x) || len(s) > 4096 {
		return false
	}
	back, e := Parse(s)
	if e != api.OK || !same(back, x) {
		t.Fatalf("Text(%v): %s, which is read as %v, %d", x, cut(s), back, e)
	}
	return true
}

// leaves are trees of one level, all kinds.
func leaves() []api.Rx {
	all := []api.Rx{
		empty(), bare(api.RxBegin), bare(api.RxEnd), bare(api.RxWord), bare(api.RxNoWord),
		chars(), chars(0, top), char('a'), char('0'), char('-'), char('^'), char('\\'), char(']'), char('?'), char(':'), char('{'), char(0), char(top),
		chars('a', 'b'), chars('a', 'c'), chars('a', 'a', 'c', 'c'), chars(0, 'a', 'c', top), chars('-', '-', 'a', 'z'), chars(0, 0xd7ff, 0xe000, top), chars(0, 0xffff), chars('*', ']', '_', '_'),
	}
	for _, x := range named() {
		all = append(all, x)
	}
	return all
}

// grown are trees that have these in them, at each place that a tree has.
func grown(some []api.Rx) []api.Rx {
	var all []api.Rx
	a := char('a')
	for _, x := range some {
		all = append(all, row(x, a), row(a, x), row(x, x), row(a, x, a), choice(x, a), choice(a, x), choice(x, x), choice(a, x, a), choice(x, empty()), row(x, empty()),
			times(0, -1, x), times(1, -1, x), times(0, 1, x), lazy(times(0, -1, x)), lazy(times(0, 1, x)), times(0, 0, x), times(1, 1, x), times(1000, 1000, x), lazy(times(2, 3, x)), times(7, -1, x), times(0, 1000, x))
	}
	return all
}

// P9.3, P9.4: trees of few levels, all kinds at all places.
func TestSmallTrees(t *testing.T) {
	n := 0
	count := func(x api.Rx) {
		if Check(x) != api.OK {
			t.Fatal(x)
		}
		if comesBack(t, x) {
			n++
		}
	}
	one := leaves()
	two := grown(one)
	for _, l := range [][]api.Rx{one, two, grown(two)} {
		for _, x := range l {
			count(x)
		}
	}
	for _, x := range one {
		for _, y := range two {
			count(row(x, y))
			count(row(y, x))
			count(choice(y, x))
		}
	}
	if n < 50000 {
		t.Error(n)
	}
}

// tree is some tree of at most so many levels.
func (c *chance) tree(deep int) api.Rx {
	kind := c.below(9)
	if deep <= 1 && kind >= 4 {
		kind = 1
	}
	switch kind {
	case 0:
		return bare([]api.RxKind{api.RxEmpty, api.RxBegin, api.RxEnd, api.RxWord, api.RxNoWord}[c.below(5)])
	case 1, 2:
		return c.set()
	case 3:
		return leaves()[c.below(len(leaves()))]
	case 4, 5:
		least := []int{0, 0, 1, 2, 999, 1000}[c.below(6)]
		most := []int{-1, least, min(least+1, 1000), 1000}[c.below(4)]
		x := times(least, most, c.tree(deep-1))
		x.Lazy = c.below(3) == 0
		return x
	}
	x := row()
	if kind >= 7 {
		x = choice()
	}
	for range 2 + c.below(3) {
		x.Sub = append(x.Sub, c.tree(deep-1))
	}
	return x
}

// set is some set, of numbers that lie close together or near a border.
func (c *chance) set() api.Rx {
	borders := []int{0, 9, 14, 32, '-', '0', 'A', '[', '^', 'a', 'z', 127, 128, 0x7ff, 0x2028, 0xd800, 0xdc00, 0xe000, 0xffff, 0x10000, top}
	var l []api.Range
	for range c.below(5) {
		from := borders[c.below(len(borders))] + c.below(5) - 2
		to := from + c.below(4)
		if c.below(4) == 0 {
			to = max(from, borders[c.below(len(borders))]+c.below(5)-2)
		}
		l = append(l, api.Range{From: from, To: to})
	}
	if c.below(3) == 0 {
		return chars2(Turn(l))
	}
	return chars2(Merge(l))
}

// P9.3, P9.4: many trees.
func TestTrees(t *testing.T) {
	var c chance = 3
	n := 0
	for range 100000 {
		x := c.tree(1 + c.below(6))
		if Check(x) != api.OK {
			t.Fatal(x)
		}
		if comesBack(t, x) {
			n++
		}
	}
	if n < 50000 {
		t.Error(n)
	}
}

// P9.4: each number below 3200 (of 16) and at the borders, alone, in rows and in classes beside others.
func TestTextOfPoints(t *testing.T) {
	points := []int{0xe001, 0xfeff, 0xfffd, 0xffff, 0x10000, 0x1f600, top - 1, top}
	for p := range 0x3200 {
		points = append(points, p)
	}
	for _, p := range points {
		came := comesBack(t, char(p)) && comesBack(t, times(0, -1, char(p))) && comesBack(t, row(char(p), char('1'))) && comesBack(t, chars2(Turn(ranges(p, p))))
		for _, q := range []int{0, 8, '-', '0', ']', '^', 'a', 0x3300} {
			came = came && comesBack(t, chars2(Merge(ranges(p, p, q, q)))) && comesBack(t, chars2(Merge(ranges(p, p+1, q, q)))) && comesBack(t, chars2(Merge(ranges(min(p, q), max(p, q)))))
		}
		if !came {
			t.Fatal(p)
		}
	}
	for _, p := range []int{0xd7ff, 0xe000} {
		if !comesBack(t, char(p)) || !comesBack(t, chars('a', p)) || !comesBack(t, chars(p, top)) {
			t.Error(p)
		}
	}
	for p := range 128 {
		for q := range 128 {
			if !comesBack(t, row(char(p), char(q))) || !comesBack(t, chars2(Merge(ranges(p, p, q, q)))) || !comesBack(t, row(times(2, 2, char(p)), char(q))) {
				t.Fatal(p, q)
			}
		}
	}
}

// P9.4: what Text writes, where it is short: no more than a person would.
func TestTextIsShort(t *testing.T) {
	for _, s := range []string{
		"", "a", "ab", "a|b*", "|", "a||b", "(a|b)c", "(ab)*", "(a|b)|c", "()", "a*?", "a+", "a??", "a{2}", "a{2,}", "a{2,3}?", "^a$", `\ba\B`, "(^)*", "((a*)*)*",
		".", `\d\w\s\D\W\S`, "[a-c]", "[^a-c]", "[]", "[^]", "[ab]", "[ac]", `[\-\]\^]`, `\^\$\\\.\*\+\?\(\)\[\]\{\}\|`, `\t\n\v\f\r`, "/-,:", "é€😀", "[À-ÿ]", `\x00`, "[+-z]", `[^\n]`,
	} {
		x, e := Parse(s)
		if e != api.OK {
			t.Fatal(s, e)
		}
		back, e := Text(x)
		if e != api.OK || len(back) > len(s) {
			t.Errorf("%s: %s, %d", s, back, e)
		}
	}
	for _, s := range []string{strings.Repeat("a", 4096), strings.Repeat("|", 4096), strings.Repeat("(ab)", 1024), strings.Repeat("a*", 2048), strings.Repeat(`\d`, 2048), strings.Repeat("😀", 1024), strings.Repeat(`\*`, 2048), strings.Repeat("[^a]", 1024)} {
		if x, e := Parse(s); e != api.OK || !comesBack(t, x) {
			t.Error(cut(s), e)
		}
	}
}

// P9.4: ranges that begin or end with a surrogate are written, however Parse takes it; where the rest has no such end, it takes it.
func TestTextOfSurrogates(t *testing.T) {
	for _, l := range [][]api.Range{
		ranges(0xd800, 0xd800), ranges(0xdfff, 0xdfff), ranges(0xd800, 0xdbff), ranges('a', 0xd900), ranges(0xd900, 0xffff), ranges(0, 0xd800), ranges(0xdfff, top), ranges(0xd900, 0xd900, 0xda00, 0xdb00), ranges(0, 0xd8ff, 0xd901, top),
	} {
		s, e := Text(chars2(l))
		if e != api.OK || s == "" || !utf8.ValidString(s) {
			t.Error(l, s, e)
		}
		if s, e := Text(row(chars2(l), times(0, -1, chars2(l)))); e != api.OK || s == "" {
			t.Error(l, s, e)
		}
	}
	for _, l := range [][]api.Range{ranges(0xd800, 0xdfff), ranges(0, 0xd7ff, 0xe000, top), ranges('a', 0xffff), ranges(0, 'a', 0xd800, 0xdfff)} {
		s, e := Text(chars2(l))
		if x, err := Parse(s); e != api.OK || err != api.OK || !slices.Equal(x.Ranges, l) {
			t.Error(l, s, e, err)
		}
	}
}

// deep are trees of so many levels, each made another way.
func deep(n int) map[string]api.Rx {
	grow := map[string]func(api.Rx) api.Rx{
		"repeat":      func(x api.Rx) api.Rx { return times(0, -1, x) },
		"row first":   func(x api.Rx) api.Rx { return row(x, char('b')) },
		"row last":    func(x api.Rx) api.Rx { return row(empty(), x) },
		"choice":      func(x api.Rx) api.Rx { return choice(char('b'), x) },
		"choice last": func(x api.Rx) api.Rx { return choice(x, empty(), char('b')) },
	}
	all := map[string]api.Rx{}
	for name, f := range grow {
		x := char('a')
		for range n - 1 {
			x = f(x)
		}
		all[name] = x
	}
	x := empty()
	for i := range n - 1 {
		x = []func(api.Rx) api.Rx{grow["repeat"], grow["row first"], grow["choice"]}[i%3](x)
	}
	all["mixed"] = x
	return all
}

// P9.3, P9.4: at most 1000 levels; those of 100 come back.
func TestDeepTrees(t *testing.T) {
	for _, n := range []int{1, 2, 99, 100} {
		for name, x := range deep(n) {
			if !comesBack(t, x) {
				t.Error(n, name)
			}
		}
	}
	for _, n := range []int{101, 200, 999, 1000} {
		for name, x := range deep(n) {
			if e := Check(x); e != api.OK {
				t.Error(n, name, e)
			}
			if s, e := Text(x); e != api.OK || s == "" {
				t.Error(n, name, e)
			}
		}
	}
	for _, n := range []int{1001, 1002, 20000} {
		for name, x := range deep(n) {
			if e := Check(x); e != api.ErrTree {
				t.Error(n, name, e)
			}
			if s, e := Text(x); e != api.ErrTree || s != "" {
				t.Error(n, name, e)
			}
		}
	}
	x := deep(999)["choice"]
	for _, y := range []api.Rx{row(char('a'), times(0, 1, x)), times(0, 1, times(0, 1, x)), choice(x, times(0, 1, times(0, 1, char('a'))), row(times(0, 1, x), x))} {
		if Check(y) != api.ErrTree {
			t.Error(levels(y))
		}
	}
	if Check(row(x, x, x)) != api.OK {
		t.Error("three of 999")
	}
}

// wrong are trees that may not be.
func wrong() []api.Rx {
	a := char('a')
	all := []api.Rx{{}, row(), row(a), choice(), choice(a)}
	for _, kind := range []api.RxKind{0, -1, 10, 11, 100, math.MaxInt, math.MinInt} {
		all = append(all, bare(kind), api.Rx{Kind: kind, Sub: []api.Rx{a, a}}, api.Rx{Kind: kind, Ranges: ranges(1, 2)})
	}
	for _, l := range [][]api.Range{
		ranges(2, 1), ranges(-1, 3), ranges(-3, -1), ranges(0, top+1), ranges(top+1, top+1), ranges(top+2, top+1), ranges(math.MinInt, math.MaxInt), ranges(5, math.MaxInt), ranges(math.MinInt, 5),
		ranges(1, 2, 3, 4), ranges(1, 3, 3, 4), ranges(1, 3, 2, 4), ranges(1, 9, 2, 3), ranges(3, 4, 1, 1), ranges(7, 7, 7, 7), ranges(1, 1, 9, 9, 5, 5), ranges(1, 1, 5, 5, 6, 6), ranges(5, 5, 4, 3), ranges(1, 2, 9, 8),
	} {
		all = append(all, chars2(l))
	}
	for _, kind := range []api.RxKind{api.RxEmpty, api.RxBegin, api.RxEnd, api.RxWord, api.RxNoWord, api.RxSet} {
		all = append(all, api.Rx{Kind: kind, Min: 1}, api.Rx{Kind: kind, Min: -1}, api.Rx{Kind: kind, Max: 1}, api.Rx{Kind: kind, Max: -1}, api.Rx{Kind: kind, Lazy: true}, api.Rx{Kind: kind, Sub: []api.Rx{a}}, api.Rx{Kind: kind, Sub: []api.Rx{a, a}})
		if kind != api.RxSet {
			all = append(all, api.Rx{Kind: kind, Ranges: ranges(1, 2)}, api.Rx{Kind: kind, Ranges: ranges(2, 1)})
		}
	}
	for _, kind := range []api.RxKind{api.RxSeq, api.RxAlt} {
		two := []api.Rx{a, a}
		all = append(all, api.Rx{Kind: kind, Sub: two, Min: 1}, api.Rx{Kind: kind, Sub: two, Max: 1}, api.Rx{Kind: kind, Sub: two, Max: -1}, api.Rx{Kind: kind, Sub: two, Min: 1, Max: 1}, api.Rx{Kind: kind, Sub: two, Lazy: true}, api.Rx{Kind: kind, Sub: two, Ranges: ranges(1, 2)}, api.Rx{Kind: kind, Ranges: ranges(1, 2)})
	}
	for _, c := range [][2]int{{-1, -1}, {-1, 0}, {-1, 5}, {1001, -1}, {1001, 1001}, {0, 1001}, {1000, 1001}, {0, -2}, {5, -2}, {2, 1}, {1, 0}, {1000, 999}, {math.MinInt, -1}, {0, math.MaxInt}, {math.MaxInt, math.MaxInt}, {0, math.MinInt}, {math.MaxInt, -1}} {
		all = append(all, times(c[0], c[1], a), lazy(times(c[0], c[1], a)))
	}
	repeat := times(0, -1, a)
	repeat.Ranges = ranges(1, 2)
	return append(all, repeat, api.Rx{Kind: api.RxRepeat, Max: -1}, api.Rx{Kind: api.RxRepeat, Max: -1, Sub: []api.Rx{a, a}})
}

// P9.3, P9.4: trees that may not be, alone and at each place of others.
func TestWrongTrees(t *testing.T) {
	for _, x := range wrong() {
		for _, y := range append(grown([]api.Rx{x}), x, row(char('a'), times(2, 3, choice(empty(), x)))) {
			if e := Check(y); e != api.ErrTree {
				t.Errorf("Check(%v): %d", y, e)
			}
			if s, e := Text(y); e != api.ErrTree || s != "" {
				t.Errorf("Text(%v): %s, %d", y, s, e)
			}
		}
	}
}

// P9.3: what may be, at the edges.
func TestRightTrees(t *testing.T) {
	a := char('a')
	for _, x := range []api.Rx{
		chars(), chars(0, 0), chars(top, top), chars(0, top), chars(0xd800, 0xdfff), chars(0, 0, 2, 2), chars(0, top-2, top, top), {Kind: api.RxSet, Ranges: []api.Range{}},
		{Kind: api.RxEmpty, Ranges: []api.Range{}, Sub: []api.Rx{}}, {Kind: api.RxBegin, Sub: []api.Rx{}},
		times(0, 0, a), times(0, 1000, a), times(1000, 1000, a), times(1000, -1, a), times(0, -1, a), lazy(times(0, 0, a)), lazy(times(3, -1, a)), times(0, -1, times(0, -1, a)),
		row(a, a), choice(a, a), row(empty(), empty()), choice(empty(), empty()), row(row(a, a), choice(a, a)),
	} {
		if e := Check(x); e != api.OK {
			t.Errorf("Check(%v): %d", x, e)
		}
	}
}

// R1: a tree that stands in itself is not gone through without an end.
func TestEndlessTrees(t *testing.T) {
	for _, kind := range []api.RxKind{api.RxSeq, api.RxAlt} {
		sub := []api.Rx{char('a'), char('a'), char('a')}
		for i := range sub {
			sub[i] = api.Rx{Kind: kind, Sub: sub}
		}
		if Check(sub[0]) != api.ErrTree {
			t.Error(kind)
		}
	}
}

// R3: Check and Text read their tree alone.
func TestTreesStay(t *testing.T) {
	room := ranges('x', 'z', 'a', 'b', '0', '9', 5, 5)
	subs := []api.Rx{chars2(room[1:2]), times(1, 2, chars2(room[2:3])), char('q')}
	x := row(subs[:2]...)
	x.Sub = subs[:2]
	Check(x)
	Text(x)
	Check(chars2(room))
	if !slices.Equal(room, ranges('x', 'z', 'a', 'b', '0', '9', 5, 5)) || !same(x, row(chars('a', 'b'), times(1, 2, chars('0', '9')))) || !same(subs[2], char('q')) {
		t.Error(room, subs)
	}
}

// R1: wide trees.
func TestWideTrees(t *testing.T) {
	x := row()
	for i := range 200000 {
		x.Sub = append(x.Sub, chars('a', 'c', 'e'+i%9, 'z'))
	}
	s, e := Text(x)
	if Check(x) != api.OK || e != api.OK || len(s) < 200000*6 {
		t.Error(len(s), e)
	}
	x.Sub[len(x.Sub)-1] = row()
	if Check(x) != api.ErrTree {
		t.Error("a wrong one at the end")
	}
}
