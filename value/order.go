package value

import (
	"cmp"
	"slices"

	"caliper/api"
	"caliper/utf"
)

func compareArrays(a api.Value, b api.Value) int {
	if c := cmp.Compare(len(a.List), len(b.List)); c != 0 {
		return c
	}
	return firstUnlike(len(a.List), func(i int) int { return Compare(a.List[i], b.List[i]) })
}

// compareObjects asks all keys ahead of any value.
func compareObjects(a api.Value, b api.Value) int {
	if c := cmp.Compare(members(a), members(b)); c != 0 {
		return c
	}
	as, bs := rising(a), rising(b)
	if c := firstUnlike(len(as), func(i int) int { return utf.Compare(a.Keys[as[i]], b.Keys[bs[i]]) }); c != 0 {
		return c
	}
	return firstUnlike(len(as), func(i int) int { return Compare(a.List[as[i]], b.List[bs[i]]) })
}

// firstUnlike compares n pairs of elements by a function that is handed in, up to the first that differ.
func firstUnlike(n int, compare func(i int) int) int {
	for i := range n {
		if c := compare(i); c != 0 {
			return c
		}
	}
	return 0
}

// anyAlike tells whether two of n elements are alike by a function that compares those at two places. Sorted, they are neighbours: not all pairs need be asked.
func anyAlike(n int, compare func(i int, j int) int) bool {
	places := sortedPlaces(n, compare)
	for i := range n - 1 {
		if compare(places[i], places[i+1]) == 0 {
			return true
		}
	}
	return false
}

// sortedPlaces are the places of n elements in rising order, by a function that compares those at two places.
func sortedPlaces(n int, compare func(i int, j int) int) []int {
	places := make([]int, n)
	for i := range n {
		places[i] = i
	}
	slices.SortFunc(places, compare)
	return places
}

// byKeys compares an object's members at two places by their keys.
func byKeys(v api.Value) func(i int, j int) int {
	return func(i int, j int) int { return utf.Compare(v.Keys[i], v.Keys[j]) }
}

// rising are the places of an object's members by rising keys.
func rising(v api.Value) []int {
	return sortedPlaces(members(v), byKeys(v))
}
