package pike

import (
	"regexp"
	"runtime/debug"
	"slices"
	"strings"
	"testing"
	"unicode/utf8"

	"caliper/api"
	"caliper/nfa"
	"caliper/rx"
)

// chance is a row of numbers that is the same in each run.
type chance uint64

func (c *chance) below(n int) int {
	*c = *c*6364136223846793005 + 1442695040888963407
	return int(uint64(*c>>33) % uint64(n))
}

// points are the code points of random texts: Words, none, and of several bytes.
func points() []rune {
	return []rune{'a', 'b', '-', 'é', '_', '😀'}
}

// text is any short text.
func (c *chance) text(most int) []rune {
	var s []rune
	for range c.below(most + 1) {
		s = append(s, points()[c.below(len(points()))])
	}
	return s
}

// states are any states that may be, most of them sets and forks that lead to the one behind them.
func (c *chance) states(most int) []api.State {
	n := 1 + c.below(most)
	l := make([]api.State, n)
	kinds := []api.StateKind{api.StSet, api.StSet, api.StSet, api.StFork, api.StFork, api.StFork, api.StBegin, api.StFinish, api.StWord, api.StNoWord}
	for i := range l {
		l[i] = api.State{Kind: kinds[c.below(len(kinds))], A: min(i+1, n-1)}
		if c.below(3) == 0 {
			l[i].A = c.below(n)
		}
		if i == n-1 && c.below(4) > 0 || c.below(12) == 0 {
			l[i].Kind = api.StDone
		}
		switch l[i].Kind {
		case api.StSet:
			l[i].Ranges = c.ranges()
		case api.StFork:
			l[i].B = c.below(n)
		case api.StDone:
			l[i].A = 0
		}
	}
	return l
}

// ranges are a set: none, some, or all but some.
func (c *chance) ranges() []api.Range {
	var some []api.Range
	for range c.below(4) {
		p := int(points()[c.below(len(points()))])
		some = append(some, api.Range{From: p - c.below(2), To: p + c.below(60)})
	}
	if c.below(2) == 0 {
		return rx.Turn(some)
	}
	return rx.Merge(some)
}

// wordy tells whether a Word stands at a number of a text.
func wordy(s []rune, i int) bool {
	return i >= 0 && i < len(s) && strings.ContainsRune("ab_", s[i])
}

// leads is the chapter's table of what comes of a state at a place.
func leads(s api.State, text []rune, place int) []int {
	border := wordy(text, place-1) != wordy(text, place)
	switch {
	case s.Kind == api.StFork:
		return []int{s.A, s.B}
	case s.Kind == api.StBegin && place == 0, s.Kind == api.StFinish && place == len(text), s.Kind == api.StWord && border, s.Kind == api.StNoWord && !border:
		return []int{s.A}
	}
	return nil
}

// grown are the states at a place, looked for in all of them again and again, as long as something comes.
func grown(l []api.State, text []rune, place int, here []bool) {
	for came := true; came; {
		came = false
		for i, s := range l {
			if !here[i] {
				continue
			}
			for _, to := range leads(s, text, place) {
				came = came || !here[to]
				here[to] = true
			}
		}
	}
}

// after is what follows at the next place.
func after(l []api.State, here []bool, p rune) []bool {
	then := make([]bool, len(l))
	for i, s := range l {
		for _, r := range s.Ranges {
			if here[i] && r.From <= int(p) && int(p) <= r.To {
				then[s.A] = true
			}
		}
	}
	return then
}

// slowly answers the chapter's words, one by one: the first place with an StDone (-1: none), the steps, and all places with one.
func slowly(l []api.State, text []rune, always bool) (int, int, []int) {
	here := make([]bool, len(l))
	first, steps := -1, 0
	var all []int
	for place := 0; place <= len(text); place++ {
		here[0] = here[0] || always || place == 0
		grown(l, text, place, here)
		met := false
		for i, is := range here {
			if is && first < 0 {
				steps++
			}
			met = met || is && l[i].Kind == api.StDone
		}
		if met {
			all = append(all, place)
			if first < 0 {
				first = place
			}
		}
		if place < len(text) {
			here = after(l, here, text[place])
		}
	}
	return first, steps, all
}

// P11.2, P11.3, P11.4: any states and texts, against the chapter's words.
func TestAnyStates(t *testing.T) {
	var c chance = 11
	yes, no, ends := 0, 0, 0
	for range 60000 {
		l := c.states(8)
		s := c.text(7)
		first, steps, _ := slowly(l, s, true)
		_, _, all := slowly(l, s, false)
		found(t, l, string(s), first >= 0, steps)
		ending(t, l, string(s), all...)
		if steps > (len(s)+1)*len(l) {
			t.Error(steps, l, s)
		}
		if first > 0 {
			yes++
		}
		if first < 0 {
			no++
		}
		if len(all) > 1 {
			ends++
		}
	}
	if yes < 5000 || no < 5000 || ends < 500 {
		t.Error(yes, no, ends)
	}
}

// P11.4: as many steps as there can be: all states at all places.
func TestMostSteps(t *testing.T) {
	for _, n := range []int{1, 2, 7, 100} {
		l := make([]api.State, n)
		for i := range l {
			l[i] = fork((i+1)%n, (i+1)%n)
		}
		for _, s := range []string{"", "a", "ab€", strings.Repeat("é", 300)} {
			found(t, l, s, false, (utf8.RuneCountInString(s)+1)*n)
		}
	}
}

// tree is any tree of at most so many levels.
func (c *chance) tree(levels int) api.Rx {
	kinds := []api.RxKind{api.RxEmpty, api.RxBegin, api.RxEnd, api.RxWord, api.RxNoWord, api.RxSet, api.RxSet, api.RxSet, api.RxSet, api.RxSet, api.RxSet}
	kind := kinds[c.below(len(kinds))]
	if levels > 1 && c.below(4) > 0 {
		kind = []api.RxKind{api.RxSeq, api.RxSeq, api.RxAlt, api.RxRepeat}[c.below(4)]
	}
	x := api.Rx{Kind: kind}
	switch kind {
	case api.RxSet:
		for range 1 + c.below(3) {
			p := int(points()[c.below(len(points()))])
			x.Ranges = append(x.Ranges, api.Range{From: p, To: p})
		}
		x.Ranges = rx.Merge(x.Ranges)
	case api.RxSeq, api.RxAlt:
		for range 2 + c.below(2) {
			x.Sub = append(x.Sub, c.tree(levels-1))
		}
	case api.RxRepeat:
		x.Sub = []api.Rx{c.tree(levels - 1)}
		x.Min = c.below(3)
		x.Max = x.Min + c.below(3)
		if c.below(2) == 0 {
			x.Max = -1
		}
		x.Lazy = c.below(2) == 0
	}
	return x
}

// says is where a tree may end that begins at one of some places.
func says(x api.Rx, text []rune, from []bool) []bool {
	to := make([]bool, len(text)+1)
	for p, is := range from {
		border := wordy(text, p-1) != wordy(text, p)
		switch {
		case !is:
		case x.Kind == api.RxEmpty, x.Kind == api.RxBegin && p == 0, x.Kind == api.RxEnd && p == len(text), x.Kind == api.RxWord && border, x.Kind == api.RxNoWord && !border:
			to[p] = true
		case x.Kind == api.RxSet && p < len(text):
			to[p+1] = slices.ContainsFunc(x.Ranges, func(r api.Range) bool { return r.From <= int(text[p]) && int(text[p]) <= r.To })
		}
	}
	switch x.Kind {
	case api.RxSeq:
		to = from
		for _, sub := range x.Sub {
			to = says(sub, text, to)
		}
	case api.RxAlt:
		for _, sub := range x.Sub {
			to = either(to, says(sub, text, from))
		}
	case api.RxRepeat:
		return saysOften(x, text, from)
	}
	return to
}

// saysOften is where a count may end. More times than there are places bring nothing new.
func saysOften(x api.Rx, text []rune, from []bool) []bool {
	for range x.Min {
		from = says(x.Sub[0], text, from)
	}
	to := from
	more := x.Max - x.Min
	if x.Max < 0 {
		more = len(text) + 1
	}
	for range more {
		from = says(x.Sub[0], text, from)
		to = either(to, from)
	}
	return to
}

func either(a []bool, b []bool) []bool {
	c := slices.Clone(a)
	for i, is := range b {
		c[i] = c[i] || is
	}
	return c
}

// P11.4: a tree's states end where the tree says.
func TestTreesEnds(t *testing.T) {
	var c chance = 5
	many := 0
	for range 40000 {
		x := c.tree(5)
		if rx.Check(x) != api.OK {
			continue
		}
		l, e := nfa.Compile(x, 500)
		if e != api.OK {
			continue
		}
		s := c.text(7)
		from := make([]bool, len(s)+1)
		from[0] = true
		var want []int
		for p, is := range says(x, s, from) {
			if is {
				want = append(want, p)
			}
		}
		ending(t, l, string(s), want...)
		if len(want) > 1 {
			many++
		}
	}
	if many < 1000 {
		t.Error(many)
	}
}

// P11.3: Search finds what is to be found by others' means too.
func TestPatterns(t *testing.T) {
	pieces := []string{"a", "b", "-", "é", ".", "[a-b]", "[^a]", "[é-😀]", "|", "(", ")", "*", "+", "?", "{0}", "{2}", "{1,2}", "{2,}", "{0,3}?", "^", "$", `\b`, `\B`, "(a|b|-)", "()", `\w`, `\W`}
	var c chance = 3
	good, yes := 0, 0
	for range 30000 {
		var b strings.Builder
		for range 1 + c.below(9) {
			b.WriteString(pieces[c.below(len(pieces))])
		}
		x, e := rx.Parse(b.String())
		if e != api.OK {
			continue
		}
		good++
		l, _ := nfa.Compile(x, api.MaxStates)
		other := regexp.MustCompile(b.String())
		for range 8 {
			s := string(c.text(6))
			want := other.MatchString(s)
			if ok, _, e := Search(l, s); ok != want || e != api.OK {
				t.Fatalf("%s: %q: %v, %d", b.String(), s, ok, e)
			}
			if want {
				yes++
			}
		}
	}
	if good < 3000 || yes < 3000 {
		t.Error(good, yes)
	}
}

// R1: states in rows far longer than calls can stand in one another, by each way on.
func TestLongRows(t *testing.T) {
	const n = 1 << 18
	defer debug.SetMaxStack(debug.SetMaxStack(8 << 20))
	for _, link := range []func(to int) api.State{
		func(to int) api.State { return fork(to, to) },
		func(to int) api.State { return fork(to, 0) },
		func(to int) api.State { return fork(0, to) },
		func(to int) api.State { return fork(n, to) },
		func(to int) api.State { return on(api.StNoWord, to) },
	} {
		l := make([]api.State, n+1)
		for i := range n {
			l[i] = link(i + 1)
		}
		l[n] = set('-', 0)
		found(t, l, "-", false, 2*(n+1))
		l[n] = end()
		found(t, l, "-", true, n+1)
		ending(t, l, "-", 0)
	}
}

// P11.2: rows about as long as calls may stand in one another, which a fork leads into in several places.
func TestRowsAtTheDeepest(t *testing.T) {
	for n := deepest - 3; n <= deepest+3; n++ {
		l := make([]api.State, n+1)
		for i := range n {
			l[i] = fork(i+1, min(n, i+deepest-1))
		}
		l[n] = set('a', n/2)
		found(t, l, "aab", false, 4*(n+1))
		l[n] = end()
		found(t, l, "aab", true, n+1)
	}
}

// W3: patterns that blow up where ways are tried one by one.
func TestNoBlowUp(t *testing.T) {
	s := strings.Repeat("a", 3000)
	for _, pattern := range []string{"^(a*)*b", "^(a|a)*b", "^(a|aa)+$-", "^(((a*)*)*)*-"} {
		l := compiled(t, pattern)
		ok, steps, e := Search(l, s)
		if ok || e != api.OK || steps > len(l)*(len(s)+1) {
			t.Error(pattern, ok, steps, e)
		}
	}
	l := compiled(t, strings.Repeat("a?", 200)+strings.Repeat("a", 200))
	if got, e := Ends(l, s[:300]); e != api.OK || len(got) != 101 || got[0] != 200 || got[100] != 300 {
		t.Error(got, e)
	}
}

// P11.3: a long text, in which the one match stands at the end.
func TestLongText(t *testing.T) {
	s := strings.Repeat("é", 200000) + "b"
	found(t, compiled(t, "b"), s, true, 200000+1+2)
	ending(t, compiled(t, "é*b"), s, 200001)
}
