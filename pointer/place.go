package pointer

import (
	"slices"
	"strconv"

	"caliper/api"
)

// placeOf is the place in a value's List to which a part leads.
func placeOf(v api.Value, part string) (int, bool) {
	switch v.Kind {
	case api.Array:
		return numberBelow(part, len(v.List))
	case api.Object:
		return keyPlace(v, part)
	}
	return 0, false
}

func keyPlace(v api.Value, key string) (int, bool) {
	i := slices.Index(v.Keys[:elements(v)], key)
	if i < 0 {
		return 0, false
	}
	return i, true
}

// numberBelow reads a number that is below another. It stops as soon as it is not, so a number of any length is no trouble.
func numberBelow(s string, end int) (int, bool) {
	if s == "" || s[0] == '0' && s != "0" {
		return 0, false
	}
	n := 0
	for i := range len(s) {
		if !isDigit(s[i]) {
			return 0, false
		}
		n = 10*n + int(s[i]-'0')
		if n >= end {
			return 0, false
		}
	}
	return n, true
}

// withInner puts the pointer of a value behind those that are there, and then those of all values in it.
func withInner(out []string, at string, v api.Value) []string {
	out = append(out, at)
	for i := range elements(v) {
		out = withInner(out, at+Text(partOf(v, i)), v.List[i])
	}
	return out
}

// elements is how many elements of a value a part leads to. Of an object that may not be, what has no partner is not reached.
func elements(v api.Value) int {
	switch v.Kind {
	case api.Array:
		return len(v.List)
	case api.Object:
		return min(len(v.Keys), len(v.List))
	}
	return 0
}

// partOf is the part that leads to an element.
func partOf(v api.Value, i int) string {
	if v.Kind == api.Object {
		return v.Keys[i]
	}
	return strconv.Itoa(i)
}

// copied is the same value in new memory, down to the innermost list.
func copied(v api.Value) api.Value {
	v.Keys, v.List = slices.Clone(v.Keys), slices.Clone(v.List)
	for i := range len(v.List) {
		v.List[i] = copied(v.List[i])
	}
	return v
}
