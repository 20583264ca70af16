package shape

import (
	"strconv"

	"caliper/api"
	"caliper/pointer"
)

// inner is a schema that a member holds, and the parts that lead to it from the member's value on.
type inner struct {
	v     api.Value
	parts []string
}

// innerOf are the schemas of a member, if its value is an array or object as it should be.
func innerOf(k kind, v api.Value) []inner {
	var all []inner
	switch {
	case k == oneSchema:
		all = append(all, inner{v: v})
	case k == rowOfSchemas && v.Kind == api.Array:
		for i, element := range v.List {
			all = append(all, inner{v: element, parts: []string{strconv.Itoa(i)}})
		}
	case (k == schemasByName || k == schemasByPattern) && v.Kind == api.Object:
		for i := range members(v) {
			all = append(all, inner{v: v.List[i], parts: []string{v.Keys[i]}})
		}
	}
	return all
}

// members is how many members an object has. One that may not be might have fewer values than keys, or the other way round.
func members(v api.Value) int {
	return min(len(v.Keys), len(v.List))
}

// subs are the pointers of the schemas that an object's members hold.
func (t table) subs(v api.Value) []string {
	var all []string
	if v.Kind != api.Object {
		return all
	}
	for i := range members(v) {
		for _, in := range innerOf(t[v.Keys[i]], v.List[i]) {
			all = append(all, pointer.Text(v.Keys[i])+pointer.Text(in.parts...))
		}
	}
	return all
}
