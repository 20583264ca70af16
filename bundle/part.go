package bundle

import (
	"caliper/pointer"
	"caliper/value"
)

// mostValues is how many values are copied, of some 128 bytes each: as many bytes as an answer may have at most.
const mostValues = 1 << 24

// partValues gives each schema's value lists of its own: till then it is a piece of its document's value, as a copy at every level on the way down would be copied again and again. Where copies would come to more than an answer may have, they stay pieces, rather than fill all memory.
func (r *reading) partValues() {
	if r.isTooMuch() {
		return
	}
	for n := range r.Schemas {
		if s := &r.Schemas[n]; s.At.Pointer != "" {
			s.V, _ = pointer.Find(s.V, "")
		}
	}
}

// isTooMuch tells whether copies would have more than mostValues.
func (r *reading) isTooMuch() bool {
	left := mostValues
	for n := range r.Schemas {
		left -= value.Size(r.Schemas[n].V)
		if left < 0 {
			return true
		}
	}
	return false
}
