package code

import (
	"testing"

	"caliper/api"
	"caliper/loops"
)

// P20.4: code without calls has no cycle, whatever it asks of what is in the value.
func TestNoCallsNoCycle(t *testing.T) {
	c := chance(7)
	for range 3000 {
		code := c.code()
		for at, i := range code.Ins {
			if i.Op == api.OpCall || i.Op == api.OpTry || i.Op == api.OpProbe {
				code.Ins[at] = in(api.OpNames, i.A)
			}
		}
		takes(t, "code without calls", code)
		if cycle, found := loops.Cycle(len(code.Routines), Calls(code)); found || len(Calls(code)) > 0 {
			t.Fatal(cycle, code.Ins)
		}
	}
}

// P20.4: from each instruction of a routine one goes on ahead alone, and comes to its end; calls lead down in rank.
func TestAheadToTheEnd(t *testing.T) {
	c := chance(9)
	taken := 0
	for range 6000 {
		code := c.code()
		c.spoil(&code)
		if Check(code) != api.OK {
			continue
		}
		taken++
		for r, from := range code.Routines {
			to := append(code.Routines, len(code.Ins))[r+1]
			goesAhead(t, code, from, to)
		}
		ranks, ok := loops.Ranks(len(code.Routines), Calls(code))
		for _, e := range Calls(code) {
			if !ok || ranks[e.From] <= ranks[e.To] {
				t.Fatal(ok, ranks, e)
			}
		}
	}
	if taken < 1000 {
		t.Error(taken)
	}
}

// goesAhead follows all ways from a routine's begin, which are of OpDone and OpNever none.
func goesAhead(t *testing.T, c api.Code, from, to int) {
	t.Helper()
	for at := from; at < to; at++ {
		i := c.Ins[at]
		next := []int{at + 1}
		switch i.Op {
		case api.OpDone, api.OpNever:
			next = nil
		case api.OpGo:
			next = []int{i.A}
		case api.OpZero, api.OpLacks, api.OpUnless:
			next = append(next, i.B)
		}
		for _, n := range next {
			if n <= at || n >= to {
				t.Fatal(at, n, to, c.Ins)
			}
		}
	}
}
