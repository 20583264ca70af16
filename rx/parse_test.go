package rx

import (
	"slices"
	"strconv"
	"strings"
	"testing"

	"caliper/api"
)

const top = 0x10ffff

// The trees that tests are made of.
func chars(ends ...int) api.Rx { return api.Rx{Kind: api.RxSet, Ranges: ranges(ends...)} }

func char(p int) api.Rx { return chars(p, p) }

func row(sub ...api.Rx) api.Rx { return api.Rx{Kind: api.RxSeq, Sub: sub} }

func choice(sub ...api.Rx) api.Rx { return api.Rx{Kind: api.RxAlt, Sub: sub} }

func times(least int, most int, sub api.Rx) api.Rx {
	return api.Rx{Kind: api.RxRepeat, Min: least, Max: most, Sub: []api.Rx{sub}}
}

func lazy(x api.Rx) api.Rx {
	x.Lazy = true
	return x
}

func bare(kind api.RxKind) api.Rx { return api.Rx{Kind: kind} }

func empty() api.Rx { return bare(api.RxEmpty) }

// same tells whether two trees are the same in all fields; nil and empty lists are.
func same(a api.Rx, b api.Rx) bool {
	if a.Kind != b.Kind || a.Min != b.Min || a.Max != b.Max || a.Lazy != b.Lazy {
		return false
	}
	return slices.Equal(a.Ranges, b.Ranges) && slices.EqualFunc(a.Sub, b.Sub, same)
}

// reads asks that a pattern is read as a tree.
func reads(t *testing.T, s string, want api.Rx) {
	t.Helper()
	x, e := Parse(s)
	if e != api.OK || !same(x, want) {
		t.Errorf("Parse(%s): %v, %d, not %v", cut(s), x, e, want)
	}
	if e == api.OK && Check(x) != api.OK {
		t.Errorf("Parse(%s): %v may not be", cut(s), x)
	}
}

// refuses asks that texts are no patterns.
func refuses(t *testing.T, texts ...string) {
	t.Helper()
	for _, s := range texts {
		if x, e := Parse(s); e != api.ErrRx || !same(x, api.Rx{}) {
			t.Errorf("Parse(%s): %v, %d", cut(s), x, e)
		}
	}
}

// P9.2: rows and choices, the empty ones among them.
func TestRows(t *testing.T) {
	a, b, c := char('a'), char('b'), char('c')
	reads(t, "", empty())
	reads(t, "a", a)
	reads(t, "ab", row(a, b))
	reads(t, "abc", row(a, b, c))
	reads(t, "a|b", choice(a, b))
	reads(t, "a|b|c", choice(a, b, c))
	reads(t, "ab|c", choice(row(a, b), c))
	reads(t, "|", choice(empty(), empty()))
	reads(t, "a|", choice(a, empty()))
	reads(t, "|a", choice(empty(), a))
	reads(t, "a||b", choice(a, empty(), b))
	reads(t, "||", choice(empty(), empty(), empty()))
	reads(t, "a|b*", choice(a, times(0, -1, b)))
}

// P9.2: groups are their pattern's trees.
func TestGroups(t *testing.T) {
	a, b, c := char('a'), char('b'), char('c')
	for _, open := range []string{"(", "(?:"} {
		reads(t, open+")", empty())
		reads(t, open+"a)", a)
		reads(t, open+open+"a))", a)
		reads(t, open+"ab)c", row(row(a, b), c))
		reads(t, "a"+open+"bc)", row(a, row(b, c)))
		reads(t, open+"a|b)|c", choice(choice(a, b), c))
		reads(t, "a|"+open+"b|c)", choice(a, choice(b, c)))
		reads(t, open+"a|b)c", row(choice(a, b), c))
		reads(t, open+")"+open+")", row(empty(), empty()))
		reads(t, open+")a", row(empty(), a))
		reads(t, open+")|"+open+")", choice(empty(), empty()))
		reads(t, open+"|)", choice(empty(), empty()))
		reads(t, open+"a*)*", times(0, -1, times(0, -1, a)))
		reads(t, open+")*", times(0, -1, empty()))
		reads(t, open+"^)+", times(1, -1, bare(api.RxBegin)))
		reads(t, open+`\b)?`, times(0, 1, bare(api.RxWord)))
		refuses(t, open, open+"a", open+open+"a)", open+"a))", "a"+open, open+"a|", open+"*)", open+"??:a)", open+"]", open+"a]")
	}
	refuses(t, ")", "a)", "(?", "(?)", "(?a)", "(?=a)", "(?!a)", "(?<=a)", "(?<!a)", "(?<n>a)", "(?i:a)", "(?:?a)", "(?::", "(? :a)", "(*)", "(|*)")
	reads(t, "(:)", char(':'))
	reads(t, "(?::)", char(':'))
}

// P9.2: at most 200 groups stand in each other; beside each other as many as there is room for.
func TestNestedGroups(t *testing.T) {
	for _, open := range []string{"(", "(?:"} {
		for _, n := range []int{1, 199, 200} {
			reads(t, strings.Repeat(open, n)+"a"+strings.Repeat(")", n), char('a'))
			reads(t, strings.Repeat(open, n)+strings.Repeat(")", n), empty())
		}
		for _, n := range []int{201, 202, 400} {
			refuses(t, strings.Repeat(open, n)+"a"+strings.Repeat(")", n))
		}
	}
	refuses(t, strings.Repeat("(", 2048)+strings.Repeat(")", 2048), strings.Repeat("(", 4096), strings.Repeat(")", 4096))
	x, e := Parse(strings.Repeat("()", 2048))
	if e != api.OK || len(x.Sub) != 2048 {
		t.Error(len(x.Sub), e)
	}
	deep := strings.Repeat("(", 200) + strings.Repeat(")", 200)
	reads(t, deep+deep, row(empty(), empty()))
	refuses(t, deep+"("+deep+")")
	full := "a"
	want := char('a')
	for range 200 {
		full = "(" + full + "*b|c)"
		want = choice(row(times(0, -1, want), char('b')), char('c'))
	}
	reads(t, full, want)
	reads(t, full+"{2}", times(2, 2, want))
}

// P9.2: what asks for a place, alone and in rows; no count stands behind it.
func TestPlaces(t *testing.T) {
	places := map[string]api.RxKind{"^": api.RxBegin, "$": api.RxEnd, `\b`: api.RxWord, `\B`: api.RxNoWord}
	for s, kind := range places {
		reads(t, s, bare(kind))
		reads(t, s+s, row(bare(kind), bare(kind)))
		reads(t, "a"+s+"b", row(char('a'), bare(kind), char('b')))
		reads(t, s+"|"+s, choice(bare(kind), bare(kind)))
		for _, count := range []string{"*", "+", "?", "{0}", "{2}", "{1,}", "{1,2}", "*?"} {
			refuses(t, s+count, "a"+s+count)
			reads(t, "("+s+")"+count+"a", row(repeatOf(count, bare(kind)), char('a')))
		}
	}
}

// repeatOf is the tree of one of a few counts.
func repeatOf(count string, x api.Rx) api.Rx {
	counts := map[string]api.Rx{
		"*": times(0, -1, x), "+": times(1, -1, x), "?": times(0, 1, x), "{0}": times(0, 0, x),
		"{2}": times(2, 2, x), "{1,}": times(1, -1, x), "{1,2}": times(1, 2, x), "*?": lazy(times(0, -1, x)),
	}
	return counts[count]
}

// P9.2: counts, lazy and not.
func TestCounts(t *testing.T) {
	cases := []struct {
		count       string
		least, most int
	}{
		{"*", 0, -1}, {"+", 1, -1}, {"?", 0, 1},
		{"{0}", 0, 0}, {"{1}", 1, 1}, {"{9}", 9, 9}, {"{10}", 10, 10}, {"{999}", 999, 999}, {"{1000}", 1000, 1000},
		{"{0,}", 0, -1}, {"{1,}", 1, -1}, {"{7,}", 7, -1}, {"{1000,}", 1000, -1},
		{"{0,0}", 0, 0}, {"{0,1}", 0, 1}, {"{2,2}", 2, 2}, {"{2,3}", 2, 3}, {"{9,10}", 9, 10}, {"{0,1000}", 0, 1000}, {"{999,1000}", 999, 1000}, {"{1000,1000}", 1000, 1000},
	}
	for _, c := range cases {
		a := times(c.least, c.most, char('a'))
		reads(t, "a"+c.count, a)
		reads(t, "a"+c.count+"?", lazy(a))
		reads(t, "a"+c.count+"b", row(a, char('b')))
		reads(t, "ba"+c.count, row(char('b'), a))
		reads(t, "a"+c.count+"|b", choice(a, char('b')))
		reads(t, "(a"+c.count+"?)"+c.count, times(c.least, c.most, lazy(a)))
		reads(t, "[a]"+c.count, a)
		reads(t, `\x61`+c.count, a)
		reads(t, "(ab)"+c.count, times(c.least, c.most, row(char('a'), char('b'))))
		for _, behind := range []string{"*", "+", "{2}", "??", "?*", "?{2}", "?+"} {
			refuses(t, "a"+c.count+behind)
		}
		refuses(t, c.count, "|"+c.count, "a|"+c.count, "("+c.count+")", c.count+"a")
	}
	for _, count := range []string{
		"{", "}", "{}", "{,}", "{,2}", "{1", "{1,", "{1,2", "1}", "{1,2,}", "{1,2,3}", "{ 1}", "{1 }", "{1, 2}", "{1 ,2}", "{-1}", "{+1}", "{1,-1}", "{a}", "{1a}", "{1,a}", "{1.5}", "{1e1}",
		"{1001}", "{1001,}", "{0,1001}", "{1001,1001}", "{1001,1000}", "{9999}", "{10000}", "{2,1}", "{1,0}", "{1000,999}", "{10,9}", "{١}", "{1", "{0x1}", "{1,0x2}",
		"{99999999999999999999}", "{18446744073709551617}", "{0,18446744073709551617}", "{4294967297}", "{" + strings.Repeat("9", 4000) + "}",
	} {
		refuses(t, "a"+count, "a"+count+"?", "(a"+count+")", count, "["+"a]"+count)
	}
}

// P9.2: counts are digits, however many noughts stand ahead.
func TestNoughtsAhead(t *testing.T) {
	reads(t, "a{00}", times(0, 0, char('a')))
	reads(t, "a{01}", times(1, 1, char('a')))
	reads(t, "a{007,0010}", times(7, 10, char('a')))
	reads(t, "a{"+strings.Repeat("0", 4080)+"1000}", times(1000, 1000, char('a')))
	refuses(t, "a{"+strings.Repeat("0", 4080)+"1001}")
}

// P9.2: code points for themselves, and those that are not.
func TestPoints(t *testing.T) {
	const special = `^$\.*+?()[]{}|`
	for p := range 0x500 {
		s := string(rune(p))
		if strings.Contains(special, s) {
			continue
		}
		reads(t, s, char(p))
		reads(t, s+"*", times(0, -1, char(p)))
		reads(t, s+s, row(char(p), char(p)))
	}
	for _, p := range []int{0x7ff, 0x800, 0xfff, 0x2028, 0x2029, 0xd7ff, 0xe000, 0xfeff, 0xfffd, 0xfffe, 0xffff, 0x10000, 0x1f600, top - 1, top} {
		reads(t, string(rune(p)), char(p))
		reads(t, "["+string(rune(p))+"]", char(p))
		reads(t, string(rune(p))+"+", times(1, -1, char(p)))
	}
	refuses(t, `\`, "*", "+", "?", "(", ")", "[", "]", "{", "}", "a]", "a{", "a}", "}a", "]a", "{a", "{}", "{1}", "{1,2}", "a{b}", "x{,1}")
	reads(t, "-,:=!<>/&~#%'\"`@;_ ", row(char('-'), char(','), char(':'), char('='), char('!'), char('<'), char('>'), char('/'), char('&'), char('~'), char('#'), char('%'), char('\''), char('"'), char('`'), char('@'), char(';'), char('_'), char(' ')))
}

// named are the sets that have a text of their own, as the document tells them.
func named() map[string]api.Rx {
	spaces := []int{9, 13, 32, 32, 0xa0, 0xa0, 0x1680, 0x1680, 0x2000, 0x200a, 0x2028, 0x2029, 0x202f, 0x202f, 0x205f, 0x205f, 0x3000, 0x3000, 0xfeff, 0xfeff}
	return map[string]api.Rx{
		`.`:  chars(0, 9, 11, 12, 14, 0x2027, 0x202a, top),
		`\d`: chars('0', '9'),
		`\D`: chars(0, '0'-1, '9'+1, top),
		`\w`: chars('0', '9', 'A', 'Z', '_', '_', 'a', 'z'),
		`\W`: chars(0, '0'-1, '9'+1, 'A'-1, 'Z'+1, '_'-1, '_'+1, 'a'-1, 'z'+1, top),
		`\s`: chars(spaces...),
		`\S`: chars(0, 8, 14, 31, 33, 0x9f, 0xa1, 0x167f, 0x1681, 0x1fff, 0x200b, 0x2027, 0x202a, 0x202e, 0x2030, 0x205e, 0x2060, 0x2fff, 0x3001, 0xfefe, 0xff00, top),
	}
}

// escapes are the escapes that stand for one number.
func escapes() map[string]int {
	all := map[string]int{
		`\t`: 9, `\n`: 10, `\v`: 11, `\f`: 12, `\r`: 13, `\0`: 0,
		`\x00`: 0, `\x41`: 'A', `\xff`: 0xff, `\xFF`: 0xff, `\xaB`: 0xab, `\x7e`: '~',
		`\u0000`: 0, `\u0041`: 'A', `\u00e9`: 0xe9, `\u00E9`: 0xe9, `\ud7ff`: 0xd7ff, `\ue000`: 0xe000, `\uE000`: 0xe000, `\uffff`: 0xffff, `\uFFFF`: 0xffff, `\uAbCd`: 0xabcd,
		`\ud83d\ude00`: 0x1f600, `\uD83D\uDE00`: 0x1f600, `\ud800\udc00`: 0x10000, `\udbff\udfff`: top, `\ud800\udfff`: 0x103ff, `\udbff\udc00`: 0x10fc00,
		`\u{0}`: 0, `\u{41}`: 'A', `\u{d7ff}`: 0xd7ff, `\u{e000}`: 0xe000, `\u{10ffff}`: top, `\u{10FFFF}`: top, `\u{1F600}`: 0x1f600, `\u{000041}`: 'A', `\u{0010ffff}`: top, `\u{` + strings.Repeat("0", 1000) + `7a}`: 'z',
	}
	for _, c := range `^$\.*+?()[]{}|/` {
		all[`\`+string(c)] = int(c)
	}
	for i := range 26 {
		all[`\c`+string(rune('a'+i))] = i + 1
		all[`\c`+string(rune('A'+i))] = i + 1
	}
	for i := range 256 {
		all[`\x`+strconv.FormatInt(int64(i/16), 16)+strconv.FormatInt(int64(i%16), 16)] = i
	}
	return all
}

// P9.2: sets with a text of their own, escapes for one number: alone, in rows, with counts, in classes.
func TestEscapes(t *testing.T) {
	for s, x := range named() {
		reads(t, s, x)
		reads(t, s+"+", times(1, -1, x))
		reads(t, "a"+s+"b", row(char('a'), x, char('b')))
		if s != "." {
			reads(t, "["+s+"]", x)
			reads(t, "[^"+s+"]", chars2(Turn(x.Ranges)))
		}
	}
	for s, p := range escapes() {
		reads(t, s, char(p))
		reads(t, s+"*?", lazy(times(0, -1, char(p))))
		reads(t, "("+s+"|"+s+")a", row(choice(char(p), char(p)), char('a')))
		reads(t, "["+s+"]", char(p))
		reads(t, "["+s+"-"+s+"]", char(p))
		reads(t, "[\\0-"+s+"]", chars(0, p))
		reads(t, "["+s+"-\\u{10ffff}]", chars(p, top))
	}
}

func chars2(l []api.Range) api.Rx { return api.Rx{Kind: api.RxSet, Ranges: l} }

// P9.2: whatever stands behind a backslash and is no escape.
func TestNoEscapes(t *testing.T) {
	const taken = `dwsDWStnvfr0cxu^$\.*+?()[]{}|/`
	for p := range 0x300 {
		s := string(rune(p))
		if strings.Contains(taken, s) {
			continue
		}
		if s != "b" && s != "B" {
			refuses(t, `\`+s, `a\`+s+`b`, `(\`+s+`)`)
		}
		if s != "b" && s != "-" {
			refuses(t, `[\`+s+`]`, `[a\`+s+`]`, `[a-\`+s+`]`)
		}
	}
	refuses(t, `\1`, `(a)\1`, `\9`, `\00`, `\01`, `\07`, `\09`, `[\00]`, `[\01]`, `[\0-\00]`, `\-`, `[\B]`, `\k<a>`, `(?<a>b)\k<a>`, `\p{L}`, `\P{L}`, `\a`, `\e`, `\z`, `\A`, `\Z`, `\_`, `\ `, "\\\n", `\é`, `\`, `a\`, `[\`, `[a\`, `[\]`)
	refuses(t, `\c`, `\c1`, `\c_`, `\c[`, `\c@`, "\\c`", `\c{`, `\cé`, `\c\`, `[\c]`, `[\c1]`, `[\c_]`)
	refuses(t, `\x`, `\x4`, `\xg1`, `\x4g`, `\x4`+"é", `\x{41}`, `\x 1`, `\x-1`, `\x+1`, `[\x4]`, `[\x]`, "\\x:1", "\\x/1", "\\x@1", "\\x`1")
	refuses(t, `\u`, `\u0`, `\u00`, `\u004`, `\u004g`, `\u00 4`, `\u-041`, `\u+041`, `\u0x4`, `[\u004]`, `\U0041`)
	refuses(t, `\u{}`, `\u{`, `\u{4`, `\u{41`, `\u{g}`, `\u{4g}`, `\u{ 41}`, `\u{41 }`, `\u{-1}`, `\u{+1}`, `\u{4,1}`, `\u{110000}`, `\u{1000000}`, `\u{ffffffff}`, `\u{ffffffffffffffff}`, `\u{10000000000000041}`, `\u{d800}`, `\u{dbff}`, `\u{dc00}`, `\u{dfff}`, `\u{00d800}`, `[\u{}]`, `[\u{d800}]`, `\u{`+strings.Repeat("f", 4000)+`}`)
	refuses(t, `\ud800`, `\udbff`, `\udc00`, `\udfff`, `\uD83D`, `\ud83da`, `\ud83d\`, `\ud83d\n`, `\ud83d\u`, `\ud83d\ude0`, `\ud83d\ude0g`, `\ud83d\u0041`, `\ud83d\ud83d`, `\ude00\ud83d`, `\ude00\ude00`, `\ud83d\u{de00}`, `\u{d83d}\ude00`, `\u{d83d}\u{de00}`, `\ud83d\\ude00`, `\ud83d|\ude00`, `(\ud83d)\ude00`, `\ud83dude00`, `\ud83d\ue000`, `\ud83d\udbff`, `\ud7ff\udc00`, `\ue000\udc00`, `[\ud83d]`, `[\ud83d-\ude00]`, `[\ud83d-\ud83f]`, `[\ud800-\udfff]`, `[\ud83d\u0041]`)
	reads(t, `\0a`, row(char(0), char('a')))
	reads(t, `\0\0`, row(char(0), char(0)))
	reads(t, `\0`, char(0))
	reads(t, `\0٣`, row(char(0), char(0x663)))
	reads(t, `\x411`, row(char('A'), char('1')))
	reads(t, `\u00411`, row(char('A'), char('1')))
	reads(t, `\u0041\u0042`, row(char('A'), char('B')))
	reads(t, `\ud83d\ude00\ud83d\ude01`, row(char(0x1f600), char(0x1f601)))
	reads(t, `\ud83d\ude00+`, times(1, -1, char(0x1f600)))
	reads(t, `\\1`, row(char('\\'), char('1')))
	reads(t, `\u{41}{2}`, times(2, 2, char('A')))
}

// P9.2: classes.
func TestClasses(t *testing.T) {
	cases := map[string]api.Rx{
		`[]`: chars(), `[^]`: chars(0, top),
		`[a]`: char('a'), `[^a]`: chars(0, 'a'-1, 'b', top),
		`[^a-c]`: chars(0, 0x60, 0x64, top),
		`[abc]`:  chars('a', 'c'), `[cab]`: chars('a', 'c'), `[aa]`: char('a'), `[ac]`: chars('a', 'a', 'c', 'c'),
		`[a-c]`: chars('a', 'c'), `[a-a]`: char('a'), `[a-cb-d]`: chars('a', 'd'), `[a-cd-f]`: chars('a', 'f'), `[x-za-c]`: chars('a', 'c', 'x', 'z'),
		`[^^]`: chars(0, '^'-1, '^'+1, top), `[a^]`: chars('^', '^', 'a', 'a'), `[\^]`: char('^'), `[\^a]`: chars('^', '^', 'a', 'a'), `[^^-a]`: chars(0, '^'-1, 'b', top), `[!-^]`: chars('!', '^'),
		`[-]`: char('-'), `[--]`: char('-'), `[---]`: char('-'), `[-a]`: chars('-', '-', 'a', 'a'), `[a-]`: chars('-', '-', 'a', 'a'), `[^-]`: chars(0, '-'-1, '-'+1, top), `[^-a]`: chars(0, '-'-1, '-'+1, 'a'-1, 'b', top), `[^a-]`: chars(0, '-'-1, '-'+1, 'a'-1, 'b', top),
		`[--a]`: chars('-', 'a'), `[+--]`: chars('+', '-'), `[+---]`: chars('+', '-'), `[+----z]`: chars('+', 'z'), `[-a-c]`: chars('-', '-', 'a', 'c'), `[a-c-]`: chars('-', '-', 'a', 'c'),
		`[a-c-e]`: chars('-', '-', 'a', 'c', 'e', 'e'), `[a-c-e-g]`: chars('-', '-', 'a', 'c', 'e', 'g'), `[a-c--e]`: chars('-', 'e'), `[^a-c-e]`: chars(0, '-'-1, '-'+1, 'a'-1, 'd', 'd', 'f', top),
		`[\d-]`: chars('-', '-', '0', '9'), `[-\d]`: chars('-', '-', '0', '9'), `[^\d-]`: chars(0, '-'-1, '-'+1, '/', ':', top), `[\da]`: chars('0', '9', 'a', 'a'), `[a\d]`: chars('0', '9', 'a', 'a'), `[\d\d]`: chars('0', '9'), `[\w\W]`: chars(0, top), `[^\w\W]`: chars(), `[\d\s-]`: chars(9, 13, 32, 32, '-', '-', '0', '9', 0xa0, 0xa0, 0x1680, 0x1680, 0x2000, 0x200a, 0x2028, 0x2029, 0x202f, 0x202f, 0x205f, 0x205f, 0x3000, 0x3000, 0xfeff, 0xfeff),
		`[\D]`: chars(0, '/', ':', top), `[^\D]`: chars('0', '9'), `[^\W\d_]`: chars('A', 'Z', 'a', 'z'), `[a-c\d-]`: chars('-', '-', '0', '9', 'a', 'c'), `[a-c\d]`: chars('0', '9', 'a', 'c'), `[\da-c]`: chars('0', '9', 'a', 'c'),
		`[\b]`: char(8), `[\b-\n]`: chars(8, 10), `[\0-\b]`: chars(0, 8), `[\-]`: char('-'), `[\--a]`: chars('-', 'a'), `[+-\-]`: chars('+', '-'), `[a\-z]`: chars('-', '-', 'a', 'a', 'z', 'z'), `[\-a]`: chars('-', '-', 'a', 'a'), `[a\-]`: chars('-', '-', 'a', 'a'), `[\-\-\-]`: char('-'), `[\---]`: char('-'),
		`[\]]`: char(']'), `[\\]`: char('\\'), `[[]`: char('['), `[[-\]]`: chars('[', ']'), `[A-\]]`: chars('A', ']'), `[\[\]]`: chars('[', '[', ']', ']'), `[\]-a]`: chars(']', 'a'), `[[a]`: chars('[', '[', 'a', 'a'), `[[:a:]`: chars(':', ':', '[', '[', 'a', 'a'),
		`[.]`: char('.'), `[.*+?(){}|$]`: chars('$', '$', '(', '+', '.', '.', '?', '?', '{', '}'), `[a|b]`: chars('a', 'b', '|', '|'), `[(?:a)]`: chars('(', ')', ':', ':', '?', '?', 'a', 'a'), `[/]`: char('/'), `[\/]`: char('/'), `[$^]`: chars('$', '$', '^', '^'), `[{2}]`: chars('2', '2', '{', '{', '}', '}'), `[,]`: char(','),
		`[é-ü]`: chars(0xe9, 0xfc), `[€]`: char(0x20ac), `[😀-😅]`: chars(0x1f600, 0x1f605), `[\ud83d\ude00-\ud83d\ude05]`: chars(0x1f600, 0x1f605), `[\u{1f600}-😅]`: chars(0x1f600, 0x1f605), `[\0-\u{10ffff}]`: chars(0, top), `[^\0-\u{10ffff}]`: chars(), `[\x41-\u005a]`: chars('A', 'Z'), `[\cA-\cZ]`: chars(1, 26), `[\t-\r]`: chars(9, 13),
		`[^\0-\ud7ff\ue000-\u{10ffff}]`: chars(0xd800, 0xdfff), `[\0-\ud7ff\ue000-\u{10ffff}]`: chars(0, 0xd7ff, 0xe000, top),
		"[\n]": char(10), "[\x00-\x1f]": chars(0, 31), `[ -~]`: chars(' ', '~'), `[\0]`: char(0), `[\0a]`: chars(0, 0, 'a', 'a'),
	}
	for s, x := range cases {
		reads(t, s, x)
		reads(t, s+"{2,}?", lazy(times(2, -1, x)))
		reads(t, "a"+s+"|"+s, choice(row(char('a'), x), x))
	}
	reads(t, "[a][b]", row(char('a'), char('b')))
	reads(t, "[][]", row(chars(), chars()))
	reads(t, "[^][^]", row(chars(0, top), chars(0, top)))
	refuses(t, `[`, `[^`, `[a`, `[a-`, `[a-b`, `[-`, `[^-`, `[\d`, `[\d-`, `[^a`, `[]]`, `[]a]`, `[a]]`, `[^]]`, `[\]`, `[a\]`, `[`+strings.Repeat("a", 4000))
	refuses(t, `[b-a]`, `[a--]`, `[a---]`, `[z-a]`, `[a-\]]`, `[\n-\b]`, `[1-0]`, `[^b-a]`, `[ab-a]`, `[b-ac]`, `[a-cz-y]`, `[a-^]`, `[😅-😀]`, `[\u{10ffff}-\0]`, `[\--+]`, `[a-\-]`, `[a-c-e-d]`)
	refuses(t, `[\d-a]`, `[a-\d]`, `[\d-\d]`, `[\d-\w]`, `[\d--]`, `[--\d]`, `[\w-a]`, `[\s-a]`, `[\D-a]`, `[\W-a]`, `[\S-a]`, `[a-\w]`, `[a-\s]`, `[a-\D]`, `[a-\W]`, `[a-\S]`, `[\d-\]]`, `[\0-\d]`, `[^\d-a]`, `[x\d-a]`, `[a-c\d-e]`, `[\d-a]`, `[\--\d]`, `[\b-\d]`, `[\d-^]`)
}

// P9.2: a pattern is valid UTF-8 of at most 4096 bytes.
func TestPatternLength(t *testing.T) {
	refuses(t, "\xff", "\x80", "a\xc3", "\xc3(", "\xe2\x82", "\xed\xa0\x80", "\xed\xbf\xbf", "\xc0\x80", "\xf4\x90\x80\x80", "\xf0\x80\x80\x80", "[\xff]", "\\\xff", "(\xff)", "a{\xff}", "\xef\xbf")
	x, e := Parse(strings.Repeat("a", 4096))
	if e != api.OK || len(x.Sub) != 4096 || Check(x) != api.OK {
		t.Error(e, len(x.Sub))
	}
	x, e = Parse(strings.Repeat("😀", 1024))
	if e != api.OK || len(x.Sub) != 1024 {
		t.Error(e, len(x.Sub))
	}
	x, e = Parse(strings.Repeat("|", 4096))
	if e != api.OK || len(x.Sub) != 4097 || Check(x) != api.OK {
		t.Error(e, len(x.Sub))
	}
	reads(t, "["+strings.Repeat("a", 4094)+"]", char('a'))
	reads(t, "["+strings.Repeat(`\W`, 2047)+"]", named()[`\W`])
	refuses(t, strings.Repeat("a", 4097), strings.Repeat("😀", 1024)+"a", strings.Repeat("|", 4097), strings.Repeat("a", 1<<20), strings.Repeat("(", 4097), "["+strings.Repeat("a", 4095)+"]", strings.Repeat("é", 2049))
}

// lists are all lists in a tree, each with its room.
func lists(x api.Rx) ([][]api.Range, [][]api.Rx) {
	sets, subs := [][]api.Range{x.Ranges}, [][]api.Rx{x.Sub}
	for _, sub := range x.Sub {
		s, l := lists(sub)
		sets, subs = append(sets, s...), append(subs, l...)
	}
	return sets, subs
}

// R3: what Parse answers is new memory, and no two lists in it share any.
func TestParseIsNew(t *testing.T) {
	for _, s := range []string{`.`, `\d\d`, `\s|\s|\S`, `[a-z][a-z]`, `(a|b*)(a|b*)`, `((ab){2}|[^\w]+?)(\W|\w)`, `....`} {
		want, _ := Parse(s)
		x, _ := Parse(s)
		sets, subs := lists(x)
		for i, l := range sets {
			for k := range l[:cap(l)] {
				l[:cap(l)][k] = api.Range{From: -i - 2, To: k}
			}
		}
		for i, l := range sets {
			for k, r := range l {
				if r != (api.Range{From: -i - 2, To: k}) {
					t.Fatal(s, "lists that share memory")
				}
			}
		}
		for _, l := range subs {
			for k := range l[:cap(l)] {
				l[:cap(l)][k] = api.Rx{}
			}
		}
		reads(t, s, want)
	}
}
