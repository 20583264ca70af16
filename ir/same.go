package ir

import "caliper/api"

// formsByName are the forms of dynamic anchors, in their order, by the anchors' names.
func formsByName(dyns []api.Dyn) map[string][]int {
	forms := map[string][]int{}
	for _, d := range dyns {
		forms[d.Name] = append(forms[d.Name], d.Form)
	}
	return forms
}

// askedOfSame are the forms that a rule asks, or may come to ask, of the same instance.
func askedOfSame(r api.Rule, byName map[string][]int) []int {
	var asked []int
	switch r.Kind {
	case api.RuAll, api.RuAny, api.RuOne, api.RuNot, api.RuIf, api.RuWhen, api.RuRef, api.RuDynamic:
		asked = but(r.Subs, noForm)
	}
	if r.Kind == api.RuDynamic {
		asked = append(asked, but(byName[r.Names[0]], r.Subs[0])...)
	}
	return asked
}

// but are the numbers of a row that are not a certain one.
func but(row []int, left int) []int {
	var others []int
	for _, n := range row {
		if n != left {
			others = append(others, n)
		}
	}
	return others
}
