package code

import "caliper/api"

// noRoutine is the number of none.
const noRoutine = -1

// callsOf answers the calls of code, which need not be code that may be.
func callsOf(c *api.Code) []api.Edge {
	var calls []api.Edge
	homes := homesOf(c)
	for at, i := range c.Ins {
		if isCall(i.Op) && homes[at] != noRoutine && isOneOf(c.Routines, i.A) {
			calls = append(calls, api.Edge{From: homes[at], To: i.A, Same: true})
		}
	}
	return calls
}

func isCall(op api.Op) bool {
	return op == api.OpCall || op == api.OpTry || op == api.OpProbe
}

// homesOf answers the routine of each instruction: the last one that begins not behind it. Routines that do not rise are asked here as well, so the last one of those that have begun is taken along.
func homesOf(c *api.Code) []int {
	homes := make([]int, len(c.Ins))
	for at := range homes {
		homes[at] = noRoutine
	}
	for r, from := range c.Routines {
		if first := max(from, 0); first < len(homes) {
			homes[first] = r
		}
	}
	last := noRoutine
	for at, r := range homes {
		last = max(last, r)
		homes[at] = last
	}
	return homes
}
