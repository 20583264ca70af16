package nfa

import (
	"slices"
	"testing"

	"caliper/api"
	"caliper/rx"
)

const top = 0x10ffff

// The trees that tests are made of.
func ranges(ends ...int) []api.Range {
	var l []api.Range
	for i := 0; i+1 < len(ends); i += 2 {
		l = append(l, api.Range{From: ends[i], To: ends[i+1]})
	}
	return l
}

func chars(ends ...int) api.Rx { return api.Rx{Kind: api.RxSet, Ranges: ranges(ends...)} }

func char(p int) api.Rx { return chars(p, p) }

func row(sub ...api.Rx) api.Rx { return api.Rx{Kind: api.RxSeq, Sub: sub} }

func choice(sub ...api.Rx) api.Rx { return api.Rx{Kind: api.RxAlt, Sub: sub} }

func times(least int, most int, sub api.Rx) api.Rx {
	return api.Rx{Kind: api.RxRepeat, Min: least, Max: most, Sub: []api.Rx{sub}}
}

func lazy(x api.Rx) api.Rx {
	x.Lazy = true
	return x
}

func bare(kind api.RxKind) api.Rx { return api.Rx{Kind: kind} }

func empty() api.Rx { return bare(api.RxEmpty) }

// The states that tests are made of.
func set(p int, a int) api.State { return api.State{Kind: api.StSet, Ranges: ranges(p, p), A: a} }

func fork(a int, b int) api.State { return api.State{Kind: api.StFork, A: a, B: b} }

func at(kind api.StateKind, a int) api.State { return api.State{Kind: kind, A: a} }

func done() api.State { return api.State{Kind: api.StDone} }

func sameState(a api.State, b api.State) bool {
	return a.Kind == b.Kind && a.A == b.A && a.B == b.B && slices.Equal(a.Ranges, b.Ranges)
}

// same tells whether lists of states are the same in all fields; nil and empty lists are.
func same(a []api.State, b []api.State) bool {
	return slices.EqualFunc(a, b, sameState)
}

func sameTree(a api.Rx, b api.Rx) bool {
	if a.Kind != b.Kind || a.Min != b.Min || a.Max != b.Max || a.Lazy != b.Lazy {
		return false
	}
	return slices.Equal(a.Ranges, b.Ranges) && slices.EqualFunc(a.Sub, b.Sub, sameTree)
}

// copied is a tree that shares nothing with this one.
func copied(x api.Rx) api.Rx {
	x.Ranges = slices.Clone(x.Ranges)
	x.Sub = slices.Clone(x.Sub)
	for i := range x.Sub {
		x.Sub[i] = copied(x.Sub[i])
	}
	return x
}

// parsed is a pattern's tree.
func parsed(t *testing.T, pattern string) api.Rx {
	t.Helper()
	x, e := rx.Parse(pattern)
	if e != api.OK {
		t.Fatal(pattern, e)
	}
	return x
}

// has asks that a tree has just these states.
func has(t *testing.T, x api.Rx, want ...api.State) {
	t.Helper()
	l, e := Compile(x, len(want))
	if e != api.OK || !same(l, want) {
		t.Errorf("Compile(%v): %v, %d, not %v", x, l, e, want)
	}
	if n, e := Size(x, len(want)); e != api.OK || n != len(want) {
		t.Errorf("Size(%v): %d, %d, not %d", x, n, e, len(want))
	}
	if e := Check(l); e != api.OK {
		t.Errorf("Check(%v): %d", l, e)
	}
}

// P10.1: trees of one node.
func TestNodes(t *testing.T) {
	has(t, empty(), done())
	has(t, char('a'), set('a', 1), done())
	has(t, chars(), api.State{Kind: api.StSet, A: 1}, done())
	has(t, chars(0, 9, 'a', 'z', top, top), api.State{Kind: api.StSet, Ranges: ranges(0, 9, 'a', 'z', top, top), A: 1}, done())
	has(t, bare(api.RxBegin), at(api.StBegin, 1), done())
	has(t, bare(api.RxEnd), at(api.StFinish, 1), done())
	has(t, bare(api.RxWord), at(api.StWord, 1), done())
	has(t, bare(api.RxNoWord), at(api.StNoWord, 1), done())
}

// P10.1: rows, with parts of no state and of several.
func TestRows(t *testing.T) {
	a, b, c := char('a'), char('b'), char('c')
	has(t, row(a, b), set('a', 1), set('b', 2), done())
	has(t, row(a, b, c), set('a', 1), set('b', 2), set('c', 3), done())
	has(t, row(row(a, b), c), set('a', 1), set('b', 2), set('c', 3), done())
	has(t, row(a, row(b, c)), set('a', 1), set('b', 2), set('c', 3), done())
	has(t, row(empty(), empty()), done())
	has(t, row(empty(), a), set('a', 1), done())
	has(t, row(a, empty()), set('a', 1), done())
	has(t, row(a, empty(), b), set('a', 1), set('b', 2), done())
	has(t, row(a, choice(b, c), a), set('a', 1), fork(2, 4), set('b', 3), fork(5, 5), set('c', 5), set('a', 6), done())
	has(t, parsed(t, `^a\b\B$`), at(api.StBegin, 1), set('a', 2), at(api.StWord, 3), at(api.StNoWord, 4), at(api.StFinish, 5), done())
}

// P10.1: alternatives of two, three and many parts; the last part has no forks.
func TestChoices(t *testing.T) {
	a, b, c := char('a'), char('b'), char('c')
	has(t, choice(a, b), fork(1, 3), set('a', 2), fork(4, 4), set('b', 4), done())
	has(t, choice(a, b, c), fork(1, 3), set('a', 2), fork(7, 7), fork(4, 6), set('b', 5), fork(7, 7), set('c', 7), done())
	has(t, choice(empty(), empty()), fork(1, 2), fork(2, 2), done())
	has(t, choice(a, empty()), fork(1, 3), set('a', 2), fork(3, 3), done())
	has(t, choice(empty(), a), fork(1, 2), fork(3, 3), set('a', 3), done())
	has(t, choice(a, empty(), b), fork(1, 3), set('a', 2), fork(6, 6), fork(4, 5), fork(6, 6), set('b', 6), done())
	has(t, choice(empty(), empty(), empty()), fork(1, 2), fork(4, 4), fork(3, 4), fork(4, 4), done())
	has(t, choice(row(a, b), c), fork(1, 4), set('a', 2), set('b', 3), fork(5, 5), set('c', 5), done())
	has(t, choice(choice(a, b), c), fork(1, 6), fork(2, 4), set('a', 3), fork(5, 5), set('b', 5), fork(7, 7), set('c', 7), done())
	has(t, choice(a, choice(b, c)), fork(1, 3), set('a', 2), fork(7, 7), fork(4, 6), set('b', 5), fork(7, 7), set('c', 7), done())
	has(t, row(choice(a, b), c), fork(1, 3), set('a', 2), fork(4, 4), set('b', 4), set('c', 5), done())
	for _, n := range []int{4, 5, 100, 3000} {
		var parts []api.Rx
		var want []api.State
		behind := 3*n - 2
		for i := range n {
			parts = append(parts, char(i))
			if i < n-1 {
				want = append(want, fork(3*i+1, 3*i+3), set(i, 3*i+2), fork(behind, behind))
			}
		}
		has(t, choice(parts...), append(want, set(n-1, behind), done())...)
	}
}

// counted asks that a count has just these states, lazy or not.
func counted(t *testing.T, x api.Rx, want ...api.State) {
	t.Helper()
	has(t, x, want...)
	has(t, lazy(x), want...)
}

// P10.1: counts with and without an end.
func TestCounts(t *testing.T) {
	a, b := char('a'), char('b')
	counted(t, times(0, 0, a), done())
	counted(t, times(1, 1, a), set('a', 1), done())
	counted(t, times(3, 3, a), set('a', 1), set('a', 2), set('a', 3), done())
	counted(t, times(0, 1, a), fork(1, 2), set('a', 2), done())
	counted(t, times(0, 2, a), fork(1, 4), set('a', 2), fork(3, 4), set('a', 4), done())
	counted(t, times(1, 3, a), set('a', 1), fork(2, 5), set('a', 3), fork(4, 5), set('a', 5), done())
	counted(t, times(2, 3, row(a, b)), set('a', 1), set('b', 2), set('a', 3), set('b', 4), fork(5, 7), set('a', 6), set('b', 7), done())
	counted(t, times(0, -1, a), fork(1, 3), set('a', 2), fork(0, 0), done())
	counted(t, times(1, -1, a), set('a', 1), fork(2, 4), set('a', 3), fork(1, 1), done())
	counted(t, times(2, -1, a), set('a', 1), set('a', 2), fork(3, 5), set('a', 4), fork(2, 2), done())
	counted(t, times(0, 0, empty()), done())
	counted(t, times(5, 5, empty()), done())
	counted(t, times(0, 1, empty()), fork(1, 1), done())
	counted(t, times(1, 3, empty()), fork(1, 2), fork(2, 2), done())
	counted(t, times(0, -1, empty()), fork(1, 2), fork(0, 0), done())
	counted(t, times(7, -1, empty()), fork(1, 2), fork(0, 0), done())
	counted(t, times(2, 2, bare(api.RxWord)), at(api.StWord, 1), at(api.StWord, 2), done())
	counted(t, times(0, 0, times(1000, 1000, times(1000, 1000, a))), done())
}

// P10.1: counts within others, and within rows and alternatives, which they stand in the middle of.
func TestCountsWithin(t *testing.T) {
	a, b, c := char('a'), char('b'), char('c')
	has(t, row(c, times(0, -1, a), b), set('c', 1), fork(2, 4), set('a', 3), fork(1, 1), set('b', 5), done())
	has(t, row(c, times(2, 2, choice(a, b))),
		set('c', 1), fork(2, 4), set('a', 3), fork(5, 5), set('b', 5), fork(6, 8), set('a', 7), fork(9, 9), set('b', 9), done())
	has(t, times(2, 2, times(0, -1, a)), fork(1, 3), set('a', 2), fork(0, 0), fork(4, 6), set('a', 5), fork(3, 3), done())
	has(t, times(0, -1, times(0, -1, a)), fork(1, 5), fork(2, 4), set('a', 3), fork(1, 1), fork(0, 0), done())
	has(t, times(0, 2, times(0, 1, a)), fork(1, 6), fork(2, 3), set('a', 3), fork(4, 6), fork(5, 6), set('a', 6), done())
	has(t, times(1, -1, times(1, 2, a)),
		set('a', 1), fork(2, 3), set('a', 3), fork(4, 8), set('a', 5), fork(6, 7), set('a', 7), fork(3, 3), done())
	has(t, choice(times(0, -1, a), b), fork(1, 5), fork(2, 4), set('a', 3), fork(1, 1), fork(6, 6), set('b', 6), done())
	has(t, choice(a, times(0, 1, b)), fork(1, 3), set('a', 2), fork(5, 5), fork(4, 5), set('b', 5), done())
}

// plain is P10.1 word by word, for a part whose first state has this number: no state is changed any more once it is there.
func plain(x api.Rx, from int) []api.State {
	var out []api.State
	next := func() int { return from + len(out) }
	put := func(x api.Rx) { out = append(out, plain(x, next())...) }
	switch x.Kind {
	case api.RxSet:
		return []api.State{{Kind: api.StSet, Ranges: x.Ranges, A: from + 1}}
	case api.RxBegin, api.RxEnd, api.RxWord, api.RxNoWord:
		kinds := map[api.RxKind]api.StateKind{api.RxBegin: api.StBegin, api.RxEnd: api.StFinish, api.RxWord: api.StWord, api.RxNoWord: api.StNoWord}
		return []api.State{at(kinds[x.Kind], from+1)}
	case api.RxSeq:
		for _, sub := range x.Sub {
			put(sub)
		}
	case api.RxAlt:
		behind := from + 2*(len(x.Sub)-1)
		for _, sub := range x.Sub {
			behind += len(plain(sub, 0))
		}
		for _, sub := range x.Sub[:len(x.Sub)-1] {
			out = append(out, fork(next()+1, next()+2+len(plain(sub, 0))))
			put(sub)
			out = append(out, fork(behind, behind))
		}
		put(x.Sub[len(x.Sub)-1])
	case api.RxRepeat:
		once := len(plain(x.Sub[0], 0))
		for range x.Min {
			put(x.Sub[0])
		}
		if x.Max == -1 {
			first := next()
			out = append(out, fork(first+1, first+once+2))
			put(x.Sub[0])
			return append(out, fork(first, first))
		}
		behind := next() + (x.Max-x.Min)*(once+1)
		for range x.Max - x.Min {
			out = append(out, fork(next()+1, behind))
			put(x.Sub[0])
		}
	}
	return out
}

// leaves are trees of one level, all kinds.
func leaves() []api.Rx {
	return []api.Rx{empty(), char('a'), chars(), chars(0, 'a', 'c', top), bare(api.RxBegin), bare(api.RxEnd), bare(api.RxWord), bare(api.RxNoWord)}
}

// grown are trees that have these in them, at each place that a tree has.
func grown(some []api.Rx) []api.Rx {
	var all []api.Rx
	b := char('b')
	for _, x := range some {
		all = append(all, row(x, b), row(b, x), row(x, x), row(b, x, b), row(x, empty()),
			choice(x, b), choice(b, x), choice(x, x), choice(b, x, b), choice(x, empty()), choice(empty(), x, x, b),
			times(0, -1, x), times(1, -1, x), times(3, -1, x), times(0, 0, x), times(1, 1, x), times(3, 3, x), times(0, 1, x), times(0, 3, x), times(2, 4, x), lazy(times(0, 2, x)), lazy(times(1, -1, x)))
	}
	return all
}

// asks holds all calls against the document's words at one tree, with every most that matters.
func asks(t *testing.T, x api.Rx) {
	t.Helper()
	was := copied(x)
	want := append(plain(x, 0), done())
	n := len(want)
	for _, most := range []int{-1, 0, 1, n - 2, n - 1, n, n + 1, 65536, 70000} {
		size, e := Size(x, most)
		if e != api.OK || size != max(1, min(n, most+1)) {
			t.Fatalf("Size(%v, %d): %d, %d, of %d", x, most, size, e, n)
		}
		l, e := Compile(x, most)
		if most < n && (e != api.ErrStates || len(l) != 0) {
			t.Fatalf("Compile(%v, %d): %v, %d", x, most, l, e)
		}
		if most >= n && (e != api.OK || !same(l, want) || Check(l) != api.OK) {
			t.Fatalf("Compile(%v, %d): %v, %d, not %v", x, most, l, e, want)
		}
	}
	if !sameTree(x, was) {
		t.Fatalf("%v has become %v", was, x)
	}
}

// P10.1, P10.2, P10.4: trees of few levels, all kinds at all places.
func TestSmallTrees(t *testing.T) {
	some := leaves()
	for _, x := range some {
		asks(t, x)
	}
	for range 2 {
		some = grown(some)
		for _, x := range some {
			asks(t, x)
		}
	}
	for i, x := range grown(some) {
		if i%5 == 0 {
			asks(t, x)
		}
	}
}

// chance is a row of numbers that is the same in each run.
type chance uint64

func (c *chance) below(n int) int {
	*c = *c*6364136223846793005 + 1442695040888963407
	return int(uint64(*c>>33) % uint64(n))
}

// tree is any tree of at most so many levels.
func (c *chance) tree(levels int) api.Rx {
	if levels == 1 || c.below(4) == 0 {
		some := leaves()
		return some[c.below(len(some))]
	}
	var sub []api.Rx
	for range 2 + c.below(3) {
		sub = append(sub, c.tree(levels-1))
	}
	switch c.below(3) {
	case 0:
		return row(sub...)
	case 1:
		return choice(sub...)
	}
	least := c.below(3)
	x := times(least, least+c.below(4)-1, sub[0])
	if x.Max < x.Min {
		x.Max = -1
	}
	x.Lazy = c.below(2) == 0
	return x
}

// P10.1, P10.2, P10.4: deeper trees.
func TestManyTrees(t *testing.T) {
	var c chance = 10
	deep := 0
	for range 4000 {
		x := c.tree(6)
		if len(x.Sub) > 0 && len(plain(x, 0)) > 40 {
			deep++
		}
		asks(t, x)
	}
	if deep < 500 {
		t.Error(deep)
	}
}

// R3: what is answered is new memory, and no two states of it share any.
func TestNewMemory(t *testing.T) {
	tree := func() api.Rx {
		return row(chars('a', 'b', 'd', 'e'), times(3, -1, chars('a', 'b', 'd', 'e')), times(1, 3, times(2, 2, choice(chars('x', 'y'), char('z')))))
	}
	x := tree()
	l, e := Compile(x, 1000)
	other, _ := Compile(x, 1000)
	if e != api.OK || len(l) < 30 || !same(l, other) {
		t.Fatal(l, e)
	}
	for i := range l {
		l[i].A, l[i].B = -1, -1
		for k := range l[i].Ranges {
			l[i].Ranges[k] = api.Range{From: i, To: 1000 + i}
		}
		_ = append(l[i].Ranges, api.Range{From: -1, To: -1})
	}
	_ = append(l, done())
	for i, s := range l {
		if !slices.Equal(s.Ranges, slices.Repeat(ranges(i, 1000+i), len(other[i].Ranges))) {
			t.Error(i, s.Ranges)
		}
	}
	if !sameTree(x, tree()) {
		t.Error(x)
	}
	if !same(other, append(plain(tree(), 0), done())) {
		t.Error(other)
	}
}
