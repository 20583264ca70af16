package value

import (
	"slices"

	"caliper/api"
)

// holdsOthers tells whether a value is of a kind that has others in it.
func holdsOthers(v api.Value) bool {
	return v.Kind == api.Array || v.Kind == api.Object
}

// members is how many members an object has. A value that may not be can have fewer keys than values, or more: what has no partner is not reached.
func members(v api.Value) int {
	return min(len(v.Keys), len(v.List))
}

// copied is the same value in new memory, down to the innermost list.
func copied(v api.Value) api.Value {
	v.Keys, v.List = slices.Clone(v.Keys), slices.Clone(v.List)
	for i := range len(v.List) {
		v.List[i] = copied(v.List[i])
	}
	return v
}

// picked are the elements of a row at these places, in new memory.
func picked[T any](row []T, places []int) []T {
	out := make([]T, len(places))
	for i := range len(places) {
		out[i] = row[places[i]]
	}
	return out
}
