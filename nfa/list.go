package nfa

import (
	"slices"

	"caliper/api"
)

// list is the states that stand already. A part of a tree is compiled by a closure over it, which puts the part's states behind them.
type list struct {
	states []api.State
}

// automaton is the states of a tree that has so many.
func automaton(x api.Rx, size int) []api.State {
	l := &list{states: make([]api.State, 0, size)}
	l.part(x)()
	l.states = append(l.states, api.State{Kind: api.StDone})
	return l.from(0)
}

// next is the number of the state that is put next.
func (l *list) next() int {
	return len(l.states)
}

// from is the row of all states from one on, cut so that nothing that is appended to it comes to stand in the list.
func (l *list) from(at int) []api.State {
	return l.states[at:len(l.states):len(l.states)]
}

// put puts a state that goes on with the one behind it. Its ranges are its own: no two states of an answer share any.
func (l *list) put(kind api.StateKind, ranges []api.Range) {
	l.states = append(l.states, api.State{Kind: kind, Ranges: slices.Clone(ranges), A: l.next() + 1})
}

// fork puts a fork; what it answers is called where its B is to be.
func (l *list) fork() func() {
	at := l.next()
	l.put(api.StFork, nil)
	return func() { l.states[at].B = l.next() }
}

// jump puts a fork both of whose ways are one; what it answers is called where they are to lead.
func (l *list) jump() func() {
	at := l.next()
	l.put(api.StFork, nil)
	return func() { l.states[at].A, l.states[at].B = l.next(), l.next() }
}

// jumpBack puts a fork both of whose ways lead to a state that stands already.
func (l *list) jumpBack(to int) {
	l.states = append(l.states, api.State{Kind: api.StFork, A: to, B: to})
}

// again puts a row that was put at a place once more: where its states lead to moves along with them.
func (l *list) again(row []api.State, at int) {
	moved := l.next() - at
	for _, s := range row {
		s.A += moved
		if s.Kind == api.StFork {
			s.B += moved
		}
		s.Ranges = slices.Clone(s.Ranges)
		l.states = append(l.states, s)
	}
}
