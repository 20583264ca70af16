package code

import (
	"slices"
	"testing"

	"caliper/api"
)

// to are edges between routines, by pairs of numbers.
func to(numbers ...int) []api.Edge {
	var all []api.Edge
	for i := 0; i < len(numbers); i += 2 {
		all = append(all, api.Edge{From: numbers[i], To: numbers[i+1], Same: true})
	}
	return all
}

func callsAre(t *testing.T, what string, c api.Code, numbers ...int) {
	t.Helper()
	if calls := Calls(c); !slices.Equal(calls, to(numbers...)) {
		t.Error(what, calls)
	}
}

// P20.2 Calls: of which ops, in which order, each as often as it stands there.
func TestCalls(t *testing.T) {
	c := rich(in(api.OpTry, 2, 3), in(api.OpCall, 1), in(api.OpProbe, 2, 7), in(api.OpCall, 1))
	c.Ins[5], c.Ins[6] = in(api.OpCall, 2), done()
	takes(t, "calls ahead", c)
	callsAre(t, "calls ahead", c, 0, 2, 0, 1, 0, 2, 0, 1, 1, 2)
	for op := api.OpDone; op <= api.OpLeft; op++ {
		c = around(in(op, fine(op, at)...))
		if op == api.OpCall || op == api.OpTry || op == api.OpProbe {
			callsAre(t, "a call", c, 0, 1)
			continue
		}
		callsAre(t, "no call", c)
	}
	callsAre(t, "nothing", api.Code{})
}

// P20.2 Calls: of code that may not be, as far as there are routines.
func TestCallsOfWhatMayNotBe(t *testing.T) {
	for _, n := range []int{-1 << 63, -1, 3, 4, 1 << 62} {
		callsAre(t, "no such routine", rich(in(api.OpCall, n), in(api.OpTry, n), in(api.OpProbe, n), in(api.OpCall, 1)), 0, 1)
	}
	five := []api.Ins{in(api.OpCall, 0), in(api.OpTry, 0), in(api.OpProbe, 0), in(api.OpCall, 1), in(api.OpCall, 2)}
	callsAre(t, "no routine", plainly(nil, five...))
	callsAre(t, "no instruction", plainly([]int{0, 1}))
	callsAre(t, "no instruction, and a routine below 0", plainly([]int{-1, 0}))
	callsAre(t, "routines behind all", plainly([]int{5, 6, 1 << 62}, five...))
	callsAre(t, "to itself", plainly([]int{0}, five...), 0, 0, 0, 0, 0, 0)
	callsAre(t, "some of no routine", plainly([]int{2, 4}, five...), 0, 0, 0, 1)
	callsAre(t, "some of one below 0", plainly([]int{-7, 4}, five...), 0, 0, 0, 0, 0, 0, 0, 1)
	callsAre(t, "several at one place", plainly([]int{0, 0, 3, 3}, five...), 1, 0, 1, 0, 1, 0, 3, 1, 3, 2)
	callsAre(t, "several below 0", plainly([]int{-1, -3, 1}, five...), 1, 0, 2, 0, 2, 0, 2, 1, 2, 2)
	callsAre(t, "routines that fall", plainly([]int{3, 1, 0}, five...), 2, 0, 2, 0, 2, 0, 2, 1, 2, 2)
	callsAre(t, "routines that rise and fall", plainly([]int{1, 4, 3}, five...), 0, 0, 0, 0, 2, 1, 2, 2)
	strange := in(api.OpCall, 1, 5, -3)
	strange.B = 1 << 40
	callsAre(t, "what it has not", rich(strange), 0, 1)
}

// routinesOf has a routine for each list: it calls these, one after the other, and is done.
func routinesOf(op api.Op, lists ...[]int) api.Code {
	c := api.Code{}
	for _, called := range lists {
		c.Routines = append(c.Routines, len(c.Ins))
		for _, r := range called {
			c.Ins = append(c.Ins, in(op, r))
		}
		c.Ins = append(c.Ins, done())
	}
	return c
}

// P20.1: calls with a cycle and without one, by each op that calls, and by others that ask routines of what is in the value.
func TestCycles(t *testing.T) {
	free := [][][]int{{{}}, {{1, 2, 1}, {2}, {}}, {{}, {0}, {1, 0}}, {{1}, {}, {3}, {}}, {{2, 1}, {3}, {3}, {}}}
	looped := [][][]int{{{0}}, {{1}, {0}}, {{}, {1}}, {{}, {}, {1, 2}}, {{1}, {2}, {0}}, {{1}, {2}, {3}, {1}}, {{}, {2}, {1}}, {{1, 1, 2}, {3}, {3}, {0}}}
	for _, op := range []api.Op{api.OpCall, api.OpTry, api.OpProbe} {
		for _, lists := range free {
			takes(t, "calls without a cycle", routinesOf(op, lists...))
		}
		for _, lists := range looped {
			refuses(t, "calls with a cycle", routinesOf(op, lists...))
		}
	}
	for _, op := range []api.Op{api.OpCount, api.OpNames} {
		for _, lists := range looped {
			takes(t, "what asks of other values", routinesOf(op, lists...))
		}
	}
	mixed := routinesOf(api.OpCall, []int{1}, []int{2}, []int{0})
	mixed.Ins[2].Op, mixed.Ins[4].Op = api.OpTry, api.OpProbe
	refuses(t, "a cycle of several ops", mixed)
	mixed.Ins[4].Op = api.OpNames
	takes(t, "without one of these", mixed)
	mixed.Ins[4].Op = api.OpCall
	mixed.Ins[3], mixed.Ins[4] = mixed.Ins[4], mixed.Ins[3]
	mixed.Ins = append(mixed.Ins, done())
	mixed.Routines = []int{0, 2, 6}
	refuses(t, "a cycle by the second call of a routine", mixed)
}

// P20.1: what may not be reached counts as well.
func TestCycleThatNobodyReaches(t *testing.T) {
	refuses(t, "behind OpDone", plainly([]int{0}, done(), in(api.OpCall, 0), done()))
	refuses(t, "passed by OpGo", plainly([]int{0}, in(api.OpGo, 2), in(api.OpCall, 0), done()))
	refuses(t, "in a routine that nobody asks", plainly([]int{0, 1}, done(), in(api.OpCall, 1), done()))
}
