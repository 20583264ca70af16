package pike

import (
	"math"
	"slices"
	"strings"
	"testing"

	"caliper/api"
	"caliper/nfa"
	"caliper/rx"
)

// set is a state that takes one code point.
func set(p int, a int) api.State {
	return api.State{Kind: api.StSet, Ranges: []api.Range{{From: p, To: p}}, A: a}
}

// anyPoint is a state that takes all code points.
func anyPoint(a int) api.State {
	return api.State{Kind: api.StSet, Ranges: []api.Range{{From: 0, To: 0x10ffff}}, A: a}
}

func fork(a int, b int) api.State {
	return api.State{Kind: api.StFork, A: a, B: b}
}

func on(kind api.StateKind, a int) api.State {
	return api.State{Kind: kind, A: a}
}

func end() api.State {
	return api.State{Kind: api.StDone}
}

// compiled is a pattern's states.
func compiled(t *testing.T, pattern string) []api.State {
	t.Helper()
	x, e := rx.Parse(pattern)
	if e != api.OK {
		t.Fatal(pattern, e)
	}
	l, e := nfa.Compile(x, api.MaxStates)
	if e != api.OK {
		t.Fatal(pattern, e)
	}
	return l
}

// found asks for what Search answers.
func found(t *testing.T, l []api.State, s string, want bool, steps int) {
	t.Helper()
	if ok, n, e := Search(l, s); ok != want || n != steps || e != api.OK {
		t.Errorf("Search(%v, %q): %v, %d, %d, not %v, %d", l, s, ok, n, e, want, steps)
	}
}

// ending asks for what Ends answers.
func ending(t *testing.T, l []api.State, s string, want ...int) {
	t.Helper()
	if got, e := Ends(l, s); !slices.Equal(got, want) || e != api.OK {
		t.Errorf("Ends(%v, %q): %v, %d, not %v", l, s, got, e, want)
	}
}

// refused asks that both calls answer an error and nothing else.
func refused(t *testing.T, l []api.State, s string, want api.Errno) {
	t.Helper()
	if ok, n, e := Search(l, s); ok || n != 0 || e != want {
		t.Errorf("Search(%v, %q): %v, %d, %d, not %d", l, s, ok, n, e, want)
	}
	if got, e := Ends(l, s); len(got) != 0 || e != want {
		t.Errorf("Ends(%v, %q): %v, %d, not %d", l, s, got, e, want)
	}
}

// wrongStates are lists that may not be.
func wrongStates() [][]api.State {
	return [][]api.State{
		nil, {}, {{}}, {on(-1, 0)}, {on(8, 0)}, {end(), on(8, 0)}, {end(), {}},
		{set('a', 1)}, {set('a', -1), end()}, {fork(0, 1)}, {fork(1, 0)}, {fork(0, -1)}, {end(), fork(2, 0)}, {end(), fork(math.MinInt, math.MaxInt)},
		{on(api.StBegin, 1)}, {on(api.StFinish, 1)}, {on(api.StWord, -1)}, {on(api.StNoWord, math.MaxInt)}, {on(api.StDone, 1), end()},
		{{Kind: api.StDone, B: 1}, end()}, {{Kind: api.StSet, B: 1}, end()}, {{Kind: api.StDone, Ranges: []api.Range{{}}}},
		{end(), {Kind: api.StSet, Ranges: []api.Range{{From: 2, To: 1}}}}, {end(), {Kind: api.StSet, Ranges: []api.Range{{From: 0, To: 0x110000}}}},
	}
}

// wrongTexts are no UTF-8.
func wrongTexts() []string {
	return []string{"\x80", "a\xff", "\xc0\x80", "\xe2\x82", "a\xe2\x82b", "\xed\xa0\x80", "\xf4\x90\x80\x80", "\xf0\x80\x80\x80", "a€\xc3", strings.Repeat("b", 1000) + "\xfe"}
}

// P11.1: states that may not be are refused first, then texts.
func TestRefused(t *testing.T) {
	for _, l := range wrongStates() {
		refused(t, l, "", api.ErrNfa)
		refused(t, l, "a", api.ErrNfa)
		for _, s := range wrongTexts() {
			refused(t, l, s, api.ErrNfa)
		}
	}
	for _, l := range [][]api.State{{end()}, {set('a', 1), end()}, {fork(0, 0)}, {on(api.StFinish, 0)}} {
		for _, s := range wrongTexts() {
			refused(t, l, s, api.ErrUtf)
		}
	}
	found(t, []api.State{end()}, "\x00\U0010ffff\ufffd", true, 1)
}

// P11.1: Word of all numbers.
func TestWord(t *testing.T) {
	words := []rune("abcdefghijklmnopqrstuvwxyzABCDEFGHIJKLMNOPQRSTUVWXYZ0123456789_")
	for p := -300; p < 0x110100; p++ {
		if want := slices.Contains(words, rune(p)); Word(p) != want {
			t.Errorf("Word(%d): %v", p, Word(p))
		}
	}
	for _, p := range []int{math.MinInt, math.MaxInt, 'a' + 256, 'a' + 1<<32, 'a' - 1<<32, -'a', 0xe9, 0xaa, 0x660, 0x17f, 0x212a} {
		if Word(p) {
			t.Errorf("Word(%d)", p)
		}
	}
}

// borders answers the places of a text that are borders, and those that are none.
func borders(t *testing.T, s string) ([]int, []int) {
	t.Helper()
	yes, e := Ends([]api.State{fork(1, 2), anyPoint(0), on(api.StWord, 3), end()}, s)
	no, f := Ends([]api.State{fork(1, 2), anyPoint(0), on(api.StNoWord, 3), end()}, s)
	if e != api.OK || f != api.OK {
		t.Error(s, e, f)
	}
	return yes, no
}

// P11.1, P11.2: StWord and StNoWord at each place of a text.
func TestBorders(t *testing.T) {
	for _, c := range []struct {
		s       string
		yes, no []int
	}{
		{"", nil, []int{0}},
		{"a", []int{0, 1}, nil},
		{"-", nil, []int{0, 1}},
		{"ab", []int{0, 2}, []int{1}},
		{"a-", []int{0, 1}, []int{2}},
		{"-a", []int{1, 2}, []int{0}},
		{"--", nil, []int{0, 1, 2}},
		{"a b", []int{0, 1, 2, 3}, nil},
		{" ab ", []int{1, 3}, []int{0, 2, 4}},
		{"é", nil, []int{0, 1}},
		{"aé€b😀", []int{0, 1, 3, 4}, []int{2, 5}},
		{"a\x00", []int{0, 1}, []int{2}},
		{"Z_9", []int{0, 3}, []int{1, 2}},
	} {
		yes, no := borders(t, c.s)
		if !slices.Equal(yes, c.yes) || !slices.Equal(no, c.no) {
			t.Errorf("%q: %v, %v", c.s, yes, no)
		}
	}
}

// P11.1: the signs that part Words from what is none, alone, ahead of a Word and behind one.
func TestBorderSigns(t *testing.T) {
	for _, c := range []struct {
		signs string
		word  bool
	}{{"09AZ_az", true}, {"/:@[`{^ \x7f\n\u00e1\uff10", false}} {
		for _, r := range c.signs {
			sign := string(r)
			for _, s := range []string{sign, sign + "b", "b" + sign, sign + "-", "-" + sign, "b" + sign + "b", "-" + sign + "-"} {
				same := strings.ReplaceAll(s, sign, map[bool]string{true: "x", false: "+"}[c.word])
				yes, no := borders(t, s)
				wantYes, wantNo := borders(t, same)
				if !slices.Equal(yes, wantYes) || !slices.Equal(no, wantNo) {
					t.Errorf("%q: %v, %v", s, yes, no)
				}
			}
		}
	}
}

// P11.2: StBegin at place 0 alone, StFinish at place n alone.
func TestBothEnds(t *testing.T) {
	first := []api.State{fork(1, 2), anyPoint(0), on(api.StBegin, 3), end()}
	last := []api.State{fork(1, 2), anyPoint(0), on(api.StFinish, 3), end()}
	both := []api.State{fork(1, 2), anyPoint(0), on(api.StFinish, 3), on(api.StBegin, 4), end()}
	for n, s := range []string{"", "a", "é\n", "a\nb", "😀😀😀😀"} {
		ending(t, first, s, 0)
		ending(t, last, s, n)
		if n == 0 {
			ending(t, both, s, 0)
		} else {
			ending(t, both, s)
		}
	}
	found(t, []api.State{on(api.StBegin, 1), end()}, "ab", true, 2)
	found(t, []api.State{on(api.StFinish, 1), end()}, "ab", true, 1+1+2)
	found(t, []api.State{set('a', 1), on(api.StBegin, 2), end()}, "aaa", false, 1+2+2+2)
	found(t, []api.State{on(api.StFinish, 1), set('a', 2), end()}, "aa", false, 1+1+2)
}

// P11.3: the chapter's examples.
func TestExamples(t *testing.T) {
	found(t, compiled(t, "a"), "ba", true, 4)
	ending(t, compiled(t, "a*"), "aab", 0, 1, 2)
}

// P11.3: an StDone that is met at place 0, at the last place, within, never; more than one; with all steps.
func TestSteps(t *testing.T) {
	a := []api.State{set('a', 1), end()}
	found(t, a, "", false, 1)
	found(t, a, "a", true, 3)
	found(t, a, "b", false, 2)
	found(t, a, "bbbb", false, 5)
	found(t, a, "bbab", true, 1+1+1+2)
	found(t, a, "abb", true, 1+2)
	found(t, []api.State{end()}, "", true, 1)
	found(t, []api.State{end()}, "abc", true, 1)
	found(t, []api.State{fork(1, 2), end(), end()}, "abc", true, 3)
	found(t, []api.State{fork(1, 2), end(), set('a', 2)}, "abc", true, 3)
	found(t, []api.State{fork(2, 1), set('a', 2), end(), end()}, "abc", true, 3)
	found(t, []api.State{fork(1, 2), set('a', 3), set('b', 4), end(), end()}, "-b", true, 3+3+4)
	found(t, []api.State{fork(1, 2), set('a', 3), set('a', 4), end(), end()}, "-a", true, 3+3+5)
	found(t, []api.State{fork(1, 2), set('a', 3), set('a', 3), end(), end()}, "-a", true, 3+3+4)
	found(t, []api.State{{Kind: api.StSet}}, "abc", false, 4)
	found(t, []api.State{anyPoint(0)}, "a€😀", false, 4)
	found(t, []api.State{anyPoint(1), anyPoint(2), anyPoint(3), end()}, "a€😀", true, 1+2+3+4)
	found(t, compiled(t, "^a"), "ba", false, 2+1+1)
	found(t, compiled(t, "a$"), "ab", false, 1+2+1)
	found(t, compiled(t, "a|b"), "-b", true, 3+3+4)
	found(t, compiled(t, `\bb`), "ab", false, 2+1+2)
}

// P11.2: states that lead to themselves, around in a ring, and to one state by several ways.
func TestRings(t *testing.T) {
	found(t, []api.State{fork(0, 0)}, "ab", false, 3)
	found(t, []api.State{fork(1, 2), fork(2, 0), fork(0, 1)}, "ab", false, 9)
	found(t, []api.State{fork(1, 1), fork(0, 0), end()}, "ab", false, 6)
	found(t, []api.State{fork(1, 2), fork(0, 2), end()}, "ab", true, 3)
	found(t, []api.State{fork(1, 2), fork(3, 3), fork(3, 3), set('a', 0)}, "aab", false, 16)
	found(t, []api.State{on(api.StNoWord, 0)}, "a-", false, 3)
	found(t, []api.State{on(api.StWord, 1), on(api.StBegin, 0)}, "a-", false, 2+2+1)
	found(t, []api.State{on(api.StBegin, 1), on(api.StFinish, 0)}, "", false, 2)
	found(t, []api.State{fork(0, 1), set('a', 0)}, "aa", false, 6)
	ending(t, []api.State{fork(0, 1), fork(1, 2), set('a', 3), fork(0, 4), end()}, "aaab", 1, 2, 3)
	ending(t, []api.State{fork(0, 0)}, "ab")
}

// P11.3: Ends of no place, one, some and all; state 0 begins at place 0 alone.
func TestEnds(t *testing.T) {
	ending(t, []api.State{end()}, "", 0)
	ending(t, []api.State{end()}, "abc", 0)
	ending(t, compiled(t, "a"), "")
	ending(t, compiled(t, "a"), "ba")
	ending(t, compiled(t, "a"), "aa", 1)
	ending(t, compiled(t, "aa"), "aaa", 2)
	ending(t, compiled(t, ".*"), "aé€😀", 0, 1, 2, 3, 4)
	ending(t, compiled(t, "(a|ab)(c|bcd)?"), "abcd", 1, 2, 3, 4)
	ending(t, compiled(t, "(aa)*"), "aaaaa", 0, 2, 4)
	ending(t, compiled(t, "(aa|aaa)+"), "aaaaa", 2, 3, 4, 5)
	ending(t, compiled(t, ".*$"), "abc", 3)
	ending(t, compiled(t, `.*\b`), "ab c", 0, 2, 3, 4)
	ending(t, compiled(t, "a*b"), "aaab-", 4)
	ending(t, compiled(t, "[à-ü]{2}"), "éàa", 2)
	ending(t, compiled(t, "a{2,3}?"), "aaaa", 2, 3)
}

// P11.2: a set's ranges at their edges.
func TestRanges(t *testing.T) {
	l := []api.State{{Kind: api.StSet, A: 1, Ranges: []api.Range{{From: 2, To: 2}, {From: 5, To: 9}, {From: 'é', To: '€'}, {From: 0x10ffff, To: 0x10ffff}}}, end()}
	for p, want := range map[rune]bool{0: false, 1: false, 2: true, 3: false, 4: false, 5: true, 7: true, 9: true, 10: false, 'é' - 1: false, 'é': true, '€' - 1: true, '€': true, '€' + 1: false, 0x10fffe: false, 0x10ffff: true} {
		if want {
			found(t, l, string(p), true, 3)
			ending(t, l, string(p), 1)
		} else {
			found(t, l, string(p), false, 2)
			ending(t, l, string(p))
		}
	}
}

// R3, R7: what is handed in is not changed, what an answer holds is its caller's, and what stands behind a list's end is nobody's.
func TestMemory(t *testing.T) {
	list := func() []api.State {
		return []api.State{fork(1, 3), anyPoint(2), fork(0, 0), on(api.StNoWord, 4), end(), {Kind: 99}}
	}
	l := list()
	one, _ := Ends(l[:5], "a--b")
	two, _ := Ends(l[:5], "a--b")
	Search(l[:5], "a--b")
	for i := range one {
		one[i] = 77
	}
	if !slices.Equal(two, []int{2}) {
		t.Error(two)
	}
	for i, s := range list() {
		if l[i].Kind != s.Kind || l[i].A != s.A || l[i].B != s.B || !slices.Equal(l[i].Ranges, s.Ranges) {
			t.Error(i, l[i])
		}
	}
	refused(t, l, "a", api.ErrNfa)
}
