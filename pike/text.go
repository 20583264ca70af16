package pike

import "caliper/api"

// text is the code points that an automaton runs over.
type text []int

// places is how many places there are: one ahead of each code point, and one behind all.
func (t text) places() int {
	return len(t) + 1
}

// lets tells whether a state of a kind goes on to others without leaving the place.
func (t text) lets(kind api.StateKind, place int) bool {
	switch kind {
	case api.StFork:
		return true
	case api.StBegin:
		return place == 0
	case api.StFinish:
		return place == len(t)
	case api.StWord:
		return t.border(place)
	case api.StNoWord:
		return !t.border(place)
	}
	return false
}

// border tells whether a Word begins or ends at a place.
func (t text) border(place int) bool {
	return t.word(place-1) != t.word(place)
}

// word tells whether there is a Word at a number; past both ends there is none.
func (t text) word(i int) bool {
	return i >= 0 && i < len(t) && Word(t[i])
}
