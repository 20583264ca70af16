package rx

import (
	"slices"
	"strings"
	"testing"

	"caliper/api"
)

// found is a tree that some rule of the grammar makes of what stands up to end.
type found struct {
	x   api.Rx
	end int
}

// grammar is the document's grammar, rule by rule: each rule answers all that it can make, however far that goes. What is read as a whole must be one thing alone.
type grammar []rune

// at is the code point at a place, or -1.
func (g grammar) at(i int) rune {
	if i >= len(g) {
		return -1
	}
	return g[i]
}

func (g grammar) has(i int, s string) bool {
	return strings.HasPrefix(string(g[min(i, len(g)):]), s)
}

// pattern: rows with `|` between.
func (g grammar) pattern(i int, groups int) []found {
	var all []found
	var rows func(i int, done []api.Rx)
	rows = func(i int, done []api.Rx) {
		for _, f := range g.row(i, groups) {
			now := append(slices.Clone(done), f.x)
			if len(now) == 1 {
				all = append(all, f)
			} else {
				all = append(all, found{api.Rx{Kind: api.RxAlt, Sub: now}, f.end})
			}
			if g.at(f.end) == '|' {
				rows(f.end+1, now)
			}
		}
	}
	rows(i, nil)
	return all
}

// row: terms one behind the other.
func (g grammar) row(i int, groups int) []found {
	var all []found
	var terms func(i int, done []api.Rx)
	terms = func(i int, done []api.Rx) {
		switch len(done) {
		case 0:
			all = append(all, found{api.Rx{Kind: api.RxEmpty}, i})
		case 1:
			all = append(all, found{done[0], i})
		default:
			all = append(all, found{api.Rx{Kind: api.RxSeq, Sub: done}, i})
		}
		for _, f := range g.term(i, groups) {
			terms(f.end, append(slices.Clone(done), f.x))
		}
	}
	terms(i, nil)
	return all
}

// term: a place, or an atom, and perhaps a count behind it.
func (g grammar) term(i int, groups int) []found {
	var all []found
	for s, kind := range map[string]api.RxKind{"^": api.RxBegin, "$": api.RxEnd, `\b`: api.RxWord, `\B`: api.RxNoWord} {
		if g.has(i, s) {
			all = append(all, found{api.Rx{Kind: kind}, i + len(s)})
		}
	}
	for _, f := range g.atom(i, groups) {
		all = append(all, f)
		for _, c := range g.count(f.end) {
			c.x.Sub = []api.Rx{f.x}
			all = append(all, c)
			if g.at(c.end) == '?' {
				c.x.Lazy = true
				all = append(all, found{c.x, c.end + 1})
			}
		}
	}
	return all
}

// count: a repeat without its Sub.
func (g grammar) count(i int) []found {
	one := func(least int, most int, end int) []found {
		return []found{{api.Rx{Kind: api.RxRepeat, Min: least, Max: most}, end}}
	}
	switch g.at(i) {
	case '*':
		return one(0, -1, i+1)
	case '+':
		return one(1, -1, i+1)
	case '?':
		return one(0, 1, i+1)
	case '{':
		n, end := g.number(i + 1)
		switch {
		case end == i+1 || n > 1000:
			return nil
		case g.has(end, "}"):
			return one(n, n, end+1)
		case g.has(end, ",}"):
			return one(n, -1, end+2)
		case g.has(end, ","):
			m, last := g.number(end + 1)
			if last > end+1 && m <= 1000 && n <= m && g.has(last, "}") {
				return one(n, m, last+1)
			}
		}
	}
	return nil
}

// number: digits, as many as there are.
func (g grammar) number(i int) (int, int) {
	n := 0
	for g.at(i) >= '0' && g.at(i) <= '9' {
		n = min(n*10+int(g.at(i)-'0'), 1<<20)
		i++
	}
	return n, i
}

// atom: a group, `.`, a class, an escape, a code point for itself.
func (g grammar) atom(i int, groups int) []found {
	var all []found
	for _, open := range []string{"(", "(?:"} {
		if g.has(i, open) && groups < 200 {
			for _, f := range g.pattern(i+len(open), groups+1) {
				if g.at(f.end) == ')' {
					all = append(all, found{f.x, f.end + 1})
				}
			}
		}
	}
	if g.at(i) == '.' {
		all = append(all, found{named()["."], i + 1})
	}
	for _, m := range g.escape(i) {
		all = append(all, found{chars2(Merge(m.l)), m.end})
	}
	if g.at(i) >= 0 && !strings.ContainsRune(`^$\.*+?()[]{}|`, g.at(i)) {
		all = append(all, found{char(int(g.at(i))), i + 1})
	}
	return append(all, g.class(i)...)
}

// marked is what a mark stands for.
type marked struct {
	l     []api.Range
	named bool
	end   int
}

// escape: a backslash, and what stands behind it.
func (g grammar) escape(i int) []marked {
	if g.at(i) != '\\' {
		return nil
	}
	var all []marked
	one := func(p int, end int) {
		all = append(all, marked{ranges(p, p), false, end})
	}
	for s, x := range named() {
		if s != "." && g.has(i, s) {
			all = append(all, marked{x.Ranges, true, i + 2})
		}
	}
	c := g.at(i + 1)
	if k := strings.IndexRune("tnvfr", c); c >= 0 && k >= 0 {
		one(9+k, i+2)
	}
	if d := g.at(i + 2); c == '0' && (d < '0' || d > '9') {
		one(0, i+2)
	}
	if d := g.at(i + 2); c == 'c' && (d >= 'a' && d <= 'z' || d >= 'A' && d <= 'Z') {
		one(int(d)%32, i+3)
	}
	if p, ok := g.hex(i+2, 2); c == 'x' && ok {
		one(p, i+4)
	}
	if p, ok := g.hex(i+2, 4); c == 'u' && ok {
		if p < 0xd800 || p > 0xdfff {
			one(p, i+6)
		}
		if low, ok := g.hex(i+8, 4); ok && g.has(i+6, `\u`) && p >= 0xd800 && p < 0xdc00 && low >= 0xdc00 && low < 0xe000 {
			one(0x10000+(p-0xd800)*0x400+low-0xdc00, i+12)
		}
	}
	if g.has(i+1, "u{") {
		for n := 1; i+3+n < len(g); n++ {
			if p, ok := g.hex(i+3, n); ok && g.at(i+3+n) == '}' && p <= 0x10ffff && (p < 0xd800 || p > 0xdfff) {
				one(p, i+4+n)
			}
		}
	}
	if c >= 0 && strings.ContainsRune(`^$\.*+?()[]{}|/`, c) {
		one(int(c), i+2)
	}
	return all
}

// hex: so many digits of 16.
func (g grammar) hex(i int, n int) (int, bool) {
	number := 0
	for k := range n {
		c := g.at(i + k)
		digit := strings.IndexRune("0123456789abcdef", c|32)
		if c < '0' || digit < 0 || c < 'A' && c > '9' {
			return 0, false
		}
		number = min(number*16+digit, 1<<24)
	}
	return number, true
}

// class: perhaps `^`, items.
func (g grammar) class(i int) []found {
	if g.at(i) != '[' {
		return nil
	}
	var all []found
	var items func(i int, l []api.Range, turned bool)
	items = func(i int, l []api.Range, turned bool) {
		if g.at(i) == ']' {
			if turned {
				all = append(all, found{chars2(Turn(l)), i + 1})
			} else {
				all = append(all, found{chars2(Merge(l)), i + 1})
			}
		}
		for _, m := range g.item(i) {
			items(m.end, append(slices.Clone(l), m.l...), turned)
		}
	}
	if g.at(i+1) == '^' {
		items(i+2, nil, true)
	} else {
		items(i+1, nil, false)
	}
	return all
}

// item: a mark, or two with a `-` between them; a `-` behind a mark and with no `]` behind it stands between two.
func (g grammar) item(i int) []marked {
	var all []marked
	for _, m := range g.mark(i) {
		if g.at(m.end) != '-' || g.at(m.end+1) == ']' {
			all = append(all, m)
			continue
		}
		for _, to := range g.mark(m.end + 1) {
			if !m.named && !to.named && m.l[0].From <= to.l[0].From {
				all = append(all, marked{ranges(m.l[0].From, to.l[0].From), false, to.end})
			}
		}
	}
	return all
}

func (g grammar) mark(i int) []marked {
	all := g.escape(i)
	if g.has(i, `\b`) {
		all = append(all, marked{ranges(8, 8), false, i + 2})
	}
	if g.has(i, `\-`) {
		all = append(all, marked{ranges('-', '-'), false, i + 2})
	}
	if c := g.at(i); c >= 0 && c != '\\' && c != ']' {
		all = append(all, marked{ranges(int(c), int(c)), false, i + 1})
	}
	return all
}

// ask holds Parse against the grammar, and what Text writes of it against Parse; it tells whether it is a pattern.
func ask(t *testing.T, s string) bool {
	t.Helper()
	g := grammar([]rune(s))
	var whole []found
	for _, f := range g.pattern(0, 0) {
		if f.end == len(g) {
			whole = append(whole, f)
		}
	}
	if len(whole) > 1 {
		t.Fatalf("%s: %d trees", cut(s), len(whole))
	}
	x, e := Parse(s)
	if len(whole) == 0 {
		if e != api.ErrRx || !same(x, api.Rx{}) {
			t.Fatalf("Parse(%s): %v, %d", cut(s), x, e)
		}
		return false
	}
	if e != api.OK || !same(x, whole[0].x) || Check(x) != api.OK {
		t.Fatalf("Parse(%s): %v, %d, not %v", cut(s), x, e, whole[0].x)
	}
	comesBack(t, x)
	return true
}

// askRows asks all rows of at most so many letters between two texts.
func askRows(t *testing.T, ahead string, letters string, most int, behind string) {
	t.Helper()
	good := 0
	rows := []string{""}
	for n := 0; n <= most; n++ {
		var longer []string
		for _, s := range rows {
			if ask(t, ahead+s+behind) {
				good++
			}
			for _, c := range letters {
				longer = append(longer, s+string(c))
			}
		}
		rows = longer
	}
	if good < 10 {
		t.Errorf("%s %s %s: %d patterns", ahead, letters, behind, good)
	}
}

// P9.2: all short rows of letters, by the document's grammar.
func TestShortRows(t *testing.T) {
	askRows(t, "", `ab|*?(){}1,:^\.[]-`, 3, "")
	askRows(t, "", `a|()*`, 6, "")
	askRows(t, "", `a^*?|`, 5, "")
	askRows(t, "a", `{}01,?*`, 5, "")
	askRows(t, "[", `a^-\]d`, 5, "]")
	askRows(t, "[", `a+-]^`, 5, "")
	askRows(t, `[`, `-\bd]`, 5, "]")
	askRows(t, `\`, `0ucx{}4a`, 4, "")
	askRows(t, `[\`, `0ux-]4a`, 4, "]")
	askRows(t, `\u`, `d8{}0c\`, 5, "")
	askRows(t, `(`, `?:a)=<`, 5, "")
	askRows(t, `(?:`, `a)|(`, 4, ")|")
}

// P9.2: all of one or two code points that stand behind something.
func TestOneMore(t *testing.T) {
	for _, ahead := range []string{"", "a", `\`, "[", "[^", "[a-", `[\`, `[a-\`, "(", "(?", "a{1", "a*", "^", `\0`, `\c`, `\x4`, `\u{4`, `\u004`, `[\d`, `[\d-`, `a\b`} {
		for _, behind := range []string{"", "]", ")", "}", "a", "-]", "-a]"} {
			for c := range 0x180 {
				ask(t, ahead+string(rune(c))+behind)
			}
		}
	}
}

// P9.2: longer ones of pieces that mean something.
func TestPieces(t *testing.T) {
	pieces := []string{
		"a", "b", "é", "😀", "0", "1", "|", "|", "*", "+", "?", "{2}", "{0,}", "{1,3}", "{1000}", "{1001}", "{3,2}", "{", "}", ",", "(", "(?:", ")", ")", "(a|b)", "[", "]", "[^", "[a-c]", "[^a]", "[]", "[^]", "-", "a-z", "^", "$", ".", "/",
		`\b`, `\B`, `\d`, `\w`, `\s`, `\D`, `\W`, `\S`, `\-`, `\/`, `\\`, `\]`, `\[`, `\0`, `\n`, `\cA`, `\c`, `\x41`, `\x4`, `\u0041`, `\u`, `\ud83d`, `\ude00`, `\u{`, `\u{1f600}`, `\u{110000}`, `\`,
	}
	var c chance = 5
	good := 0
	for range 60000 {
		var s strings.Builder
		for range 1 + c.below(7) {
			s.WriteString(pieces[c.below(len(pieces))])
		}
		if ask(t, s.String()) {
			good++
		}
	}
	if good < 5000 {
		t.Error(good)
	}
}
