package pike

import (
	"slices"

	"caliper/api"
)

// deepest is how many calls stand in one another at most: the states may lead to one another in a longer row than the stack has room for.
const deepest = 1000

// follower answers the function that finds the states at a place, from some on, each once. Places are asked rising, and what it answers holds till it is called again.
func follower(l []api.State, t text) func(place int, from []int) []int {
	// come has, of each state, how many places there were when it came last: so nothing need be forgotten from place to place.
	come := map[int]int{}
	var here, waiting []int
	place := 0
	var follow func(state int, deep int)
	follow = func(state int, deep int) {
		if come[state] == place+1 {
			return
		}
		if deep == deepest {
			waiting = append(waiting, state)
			return
		}
		come[state] = place + 1
		here = append(here, state)
		s := l[state]
		if !t.lets(s.Kind, place) {
			return
		}
		follow(s.A, deep+1)
		if s.Kind == api.StFork {
			follow(s.B, deep+1)
		}
	}
	return func(now int, from []int) []int {
		place, here, waiting = now, here[:0], from
		for len(waiting) > 0 {
			last := len(waiting) - 1
			state := waiting[last]
			waiting = waiting[:last]
			follow(state, 0)
		}
		return here
	}
}

// done tells whether one of some states is an StDone.
func done(l []api.State, here []int) bool {
	return slices.ContainsFunc(here, func(state int) bool { return l[state].Kind == api.StDone })
}

// next answers what follows some states at the next place, if there is a code point between.
func next(l []api.State, here []int, rest text) []int {
	if len(rest) == 0 {
		return nil
	}
	var to []int
	for _, state := range here {
		if s := l[state]; s.Kind == api.StSet && has(s.Ranges, rest[0]) {
			to = append(to, s.A)
		}
	}
	return to
}

// has tells whether a code point is in a set.
func has(set []api.Range, p int) bool {
	_, found := slices.BinarySearchFunc(set, p, func(r api.Range, p int) int {
		if r.To < p {
			return -1
		}
		if r.From > p {
			return 1
		}
		return 0
	})
	return found
}
