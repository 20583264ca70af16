package nfa

import (
	"regexp"
	"strings"
	"testing"

	"caliper/api"
	"caliper/rx"
)

// P10.4: counts have states as if they were written out.
func TestWrittenOut(t *testing.T) {
	pairs := [][2]string{
		{"a{0}", ""}, {"a{1}", "a"}, {"a{3}", "aaa"}, {"a{2,}", "aaa*"}, {"a+", "aa*"}, {"a?", "a{0,1}"}, {"a*", "a{0,}"},
		{"a{0,2}", "(a(a)?)?"}, {"a{1,3}", "a(a(a)?)?"}, {"a{2,4}b", "aa(a(a)?)?b"}, {"a{2}?", "aa"}, {"a{1,2}?", "aa?"}, {"a*?", "a*"}, {"a+?", "aa*"},
		{"(ab|c){2}", "(ab|c)(ab|c)"}, {"x(ab|c){2,}y", "x(ab|c)(ab|c)(ab|c)*y"}, {"(a|b){0,2}", "((a|b)(a|b)?)?"}, {"(a{2}){2}", "aaaa"}, {"(a{1,2}b){2}", "aa?baa?b"},
		{"(a*){3}", "a*a*a*"}, {"((a|){2}|b){2}", "((a|)(a|)|b)((a|)(a|)|b)"}, {"(){1000}", ""}, {`(^a\b){2}$`, `^a\b^a\b$`}, {"(a|b{2}){1,2}|c", "((a|bb)(a|bb)?)|c"},
		{"a{1000}", strings.Repeat("a", 1000)}, {"(ab?){200,}", strings.Repeat("ab?", 200) + "(ab?)*"},
	}
	for _, p := range pairs {
		short, e := Compile(parsed(t, p[0]), 65536)
		long, f := Compile(parsed(t, p[1]), 65536)
		if e != api.OK || f != api.OK || !same(short, long) {
			t.Errorf("%s: %v, %d, not %v, %d", p[0], short, e, long, f)
		}
	}
}

// takes tells whether states take a whole text: all states that can be reached are followed at once.
func takes(l []api.State, text string) bool {
	word := func(i int) bool { return i >= 0 && i < len(text) && text[i] != '-' }
	now := map[int]bool{}
	var reach func(to map[int]bool, s int, i int)
	reach = func(to map[int]bool, s int, i int) {
		if to[s] {
			return
		}
		border := word(i-1) != word(i)
		switch state := l[s]; state.Kind {
		case api.StFork:
			to[s] = true
			reach(to, state.A, i)
			reach(to, state.B, i)
		case api.StSet, api.StDone:
			to[s] = true
		case api.StBegin:
			if i == 0 {
				reach(to, state.A, i)
			}
		case api.StFinish:
			if i == len(text) {
				reach(to, state.A, i)
			}
		case api.StWord, api.StNoWord:
			if border == (state.Kind == api.StWord) {
				reach(to, state.A, i)
			}
		}
	}
	reach(now, 0, 0)
	for i := range len(text) {
		then := map[int]bool{}
		for s := range now {
			for _, r := range l[s].Ranges {
				if r.From <= int(text[i]) && int(text[i]) <= r.To {
					reach(then, l[s].A, i+1)
				}
			}
		}
		now = then
	}
	for s := range now {
		if l[s].Kind == api.StDone {
			return true
		}
	}
	return false
}

// P10.1: the states take what their pattern does.
func TestMeaning(t *testing.T) {
	texts := []string{""}
	for i := 0; len(texts) < 121; i++ {
		texts = append(texts, texts[i]+"a", texts[i]+"b", texts[i]+"-")
	}
	pieces := []string{"a", "b", "-", ".", "[a-b]", "[^a]", "|", "|", "(", "(", ")", ")", "*", "+", "?", "{0}", "{2}", "{1,2}", "{2,}", "{0,3}?", "^", "$", `\b`, `\B`, "(a|b|-)", "()"}
	var c chance = 3
	good := 0
	for range 30000 {
		var s strings.Builder
		for range 1 + c.below(9) {
			s.WriteString(pieces[c.below(len(pieces))])
		}
		x, e := rx.Parse(s.String())
		if e != api.OK {
			continue
		}
		good++
		l, e := Compile(x, 65536)
		if e != api.OK {
			t.Fatal(s.String(), e)
		}
		other := regexp.MustCompile("^(?:" + s.String() + ")$")
		for range 12 {
			text := texts[c.below(len(texts))]
			if takes(l, text) != other.MatchString(text) {
				t.Fatalf("%s: %q: %v", s.String(), text, takes(l, text))
			}
		}
	}
	if good < 3000 {
		t.Error(good)
	}
}
