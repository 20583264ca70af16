package value

import (
	"caliper/api"
	"caliper/dec"
	"caliper/utf"
)

// mayBe tells whether a value may be, with at most that many levels. It goes down ahead of going on and ends with the first fault, so it ends also of a list that holds itself.
func mayBe(v api.Value, levels int) bool {
	if holdsOthers(v) && levels == 0 || !fits(v) {
		return false
	}
	for i := range len(v.List) {
		if !mayBe(v.List[i], levels-1) {
			return false
		}
	}
	return true
}

// fits tells whether a value may be, but for what is in its List.
func fits(v api.Value) bool {
	return v.Kind >= api.Null && v.Kind <= api.Object &&
		!hasOthers(v) && dec.Check(v.Num) == api.OK && isText(v.Text) && keysFit(v)
}

// hasOthers tells whether a value has what only other kinds have.
func hasOthers(v api.Value) bool {
	return v.Kind != api.Number && v.Num != (api.Dec{}) ||
		v.Kind != api.String && v.Text != "" ||
		v.Kind != api.Object && len(v.Keys) > 0 ||
		!holdsOthers(v) && len(v.List) > 0
}

// keysFit tells whether the keys are an object's, as many as it has values; of other kinds there are none.
func keysFit(v api.Value) bool {
	if v.Kind != api.Object {
		return true
	}
	if len(v.Keys) != len(v.List) {
		return false
	}
	for i := range members(v) {
		if !isText(v.Keys[i]) {
			return false
		}
	}
	return !anyAlike(members(v), byKeys(v))
}

func isText(s string) bool {
	_, ok := utf.Good([]byte(s))
	return ok
}
