package sat

import (
	"caliper/api"
	"caliper/nfa"
	"caliper/pike"
	"caliper/rx"
)

// mostKept is how many states may be kept, or those of one pattern: programs may have far more patterns, with far more states each, than there is room for.
const mostKept = 4 * api.MaxStates

// automata are those of the patterns that were looked for.
type automata struct {
	kept   map[string][]api.State
	states int
}

// finds tells whether something in a text matches a pattern.
func (a *automata) finds(pattern string, text string) bool {
	ok, _, _ := pike.Search(a.statesOf(pattern), text)
	return ok
}

func (a *automata) statesOf(pattern string) []api.State {
	states, ok := a.kept[pattern]
	if ok {
		return states
	}
	x, _ := rx.Parse(pattern)
	states, _ = nfa.Compile(x, api.MaxStates)
	if a.states+len(states) > mostKept {
		clear(a.kept)
		a.states = 0
	}
	a.kept[pattern] = states
	a.states += len(states)
	return states
}
