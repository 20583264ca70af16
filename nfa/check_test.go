package nfa

import (
	"math"
	"slices"
	"testing"

	"caliper/api"
)

// may asks that states may be.
func may(t *testing.T, l ...api.State) {
	t.Helper()
	if e := Check(l); e != api.OK {
		t.Errorf("Check(%v): %d", l, e)
	}
}

// mayNot asks that states may not be.
func mayNot(t *testing.T, l ...api.State) {
	t.Helper()
	if e := Check(l); e != api.ErrNfa {
		t.Errorf("Check(%v): %d", l, e)
	}
}

// bordered are the kinds that have an A and nothing else.
func bordered() []api.StateKind {
	return []api.StateKind{api.StBegin, api.StFinish, api.StWord, api.StNoWord}
}

// P10.3: states of each kind, whatever they lead to.
func TestMayBe(t *testing.T) {
	may(t, done())
	may(t, done(), done())
	may(t, api.State{Kind: api.StDone, Ranges: []api.Range{}})
	may(t, set('a', 0))
	may(t, set('a', 1), done())
	may(t, done(), set('a', 0))
	may(t, api.State{Kind: api.StSet})
	may(t, api.State{Kind: api.StSet, Ranges: ranges(0, top)})
	may(t, api.State{Kind: api.StSet, Ranges: ranges(0, 0, 2, 2, 4, 0xd800, top, top)})
	may(t, fork(0, 0))
	may(t, fork(1, 0), fork(0, 1))
	may(t, fork(1, 2), fork(2, 2), done())
	may(t, api.State{Kind: api.StFork, Ranges: []api.Range{}})
	for _, kind := range bordered() {
		may(t, at(kind, 0))
		may(t, at(kind, 1), done())
		may(t, done(), at(kind, 1))
	}
}

// P10.3: no state, and kinds that are not.
func TestNoStates(t *testing.T) {
	mayNot(t)
	if e := Check([]api.State{}); e != api.ErrNfa {
		t.Error(e)
	}
	for _, kind := range []api.StateKind{0, -1, 8, 9, math.MaxInt, math.MinInt} {
		mayNot(t, at(kind, 0))
		mayNot(t, done(), at(kind, 0))
		mayNot(t, at(kind, 0), done())
	}
}

// P10.3: A and B within the states, and zero where a kind has none.
func TestWays(t *testing.T) {
	for _, n := range []int{1, 2, 5} {
		for _, to := range []int{-1, n, n + 1, math.MinInt, math.MaxInt} {
			for i := range n {
				l := slices.Repeat([]api.State{done()}, n)
				for _, s := range []api.State{set('a', to), fork(to, 0), fork(0, to), fork(to, to), at(api.StBegin, to), at(api.StFinish, to), at(api.StWord, to), at(api.StNoWord, to), at(api.StDone, to)} {
					l[i] = s
					mayNot(t, l...)
				}
			}
		}
	}
	for _, b := range []int{-1, 1, 2, 3} {
		for _, kind := range append(bordered(), api.StSet, api.StDone) {
			mayNot(t, api.State{Kind: kind, B: b}, done(), done())
			mayNot(t, done(), done(), api.State{Kind: kind, B: b})
		}
	}
	for _, a := range []int{-1, 1, 2, 3} {
		mayNot(t, at(api.StDone, a), done(), done())
		mayNot(t, done(), done(), at(api.StDone, a))
	}
}

// P10.3: Ranges are a set, of StSet alone.
func TestRanges(t *testing.T) {
	for _, l := range [][]api.Range{ranges(5, 4), ranges(1, 1, 2, 2), ranges(1, 3, 3, 5), ranges(1, 5, 2, 3), ranges(5, 5, 1, 1), ranges(7, 7, 7, 7), ranges(-1, 0), ranges(0, top+1), ranges(top+1, top+2), ranges(1, 1, 9, 8), {{}, {}}} {
		mayNot(t, api.State{Kind: api.StSet, Ranges: l})
		mayNot(t, done(), api.State{Kind: api.StSet, Ranges: l, A: 1})
	}
	for _, l := range [][]api.Range{ranges(1, 1), ranges(0, 0), ranges(0, top), ranges(5, 4), ranges(1, 1, 3, 3)} {
		for _, kind := range append(bordered(), api.StFork, api.StDone) {
			mayNot(t, api.State{Kind: kind, Ranges: l})
			mayNot(t, set('a', 1), api.State{Kind: kind, Ranges: l})
		}
	}
}

// P10.3, R7: more states than Compile makes may be; what stands behind a list's end does not count.
func TestLongLists(t *testing.T) {
	l := slices.Repeat([]api.State{fork(65536, 70000)}, 70001)
	may(t, l...)
	mayNot(t, l[:70000]...)
	l[70000].Kind = 0
	mayNot(t, l...)
	l[70000].Kind = api.StSet
	l[70000].B = 0
	l[70000].Ranges = ranges(1, 1, 3, 3, 2, 2)
	mayNot(t, l...)
	l[70000].Ranges = l[70000].Ranges[:2]
	may(t, l...)
}

// R3: Check changes nothing.
func TestCheckReads(t *testing.T) {
	list := func() []api.State {
		return []api.State{{Kind: api.StSet, Ranges: ranges(9, 9, 1, 2, 2, 3)}, fork(7, -1), done()}
	}
	l := list()
	mayNot(t, l...)
	if !same(l, list()) {
		t.Error(l)
	}
}

// P10.3: whatever one number of a good list is, just what the document says of it.
func TestOneNumber(t *testing.T) {
	x := parsed(t, `^(a|[b-d]\b)*\B$`)
	good, e := Compile(x, 100)
	if e != api.OK {
		t.Fatal(e)
	}
	n := len(good)
	for i, s := range good {
		for to := -2; to < n+3; to++ {
			l := slices.Clone(good)
			l[i].A = to
			if want := to >= 0 && to < n && s.Kind != api.StDone || to == 0; (Check(l) == api.OK) != want {
				t.Error(l[i])
			}
			l = slices.Clone(good)
			l[i].B = to
			if want := to >= 0 && to < n && s.Kind == api.StFork || to == 0; (Check(l) == api.OK) != want {
				t.Error(l[i])
			}
		}
	}
}
