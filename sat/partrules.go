package sat

import (
	"slices"

	"caliper/api"
)

// element asks a form of the element at a place.
func (a *asking) element(form int, place int) asked {
	return asked{question: a.questionOf(form, a.scope, a.elementsOf(a.node)+place), place: place}
}

// elements asks a form of all elements whose places are meant.
func (a *asking) elements(form int, isMeant func(place int) bool) []asked {
	var row []asked
	for place := range a.value.List {
		if isMeant(place) {
			row = append(row, a.element(form, place))
		}
	}
	return row
}

func (a *asking) prefix(r api.Rule) demand {
	var row []asked
	for place := range min(len(r.Subs), len(a.value.List)) {
		row = append(row, a.element(r.Subs[place], place))
	}
	return allOf(row)
}

func (a *asking) items(r api.Rule) demand {
	return allOf(a.elements(r.Subs[0], func(place int) bool { return place >= r.N }))
}

func (a *asking) contains(r api.Rule) demand {
	row := a.elements(r.Subs[0], func(int) bool { return true })
	d := demand{asked: row, least: r.N, most: r.M}
	if r.M == none {
		d.most = len(row)
	}
	return d
}

func (a *asking) props(r api.Rule) demand {
	var row []asked
	for i, name := range r.Names {
		if place, ok := a.placeOf(a.node, name); ok {
			row = append(row, a.element(r.Subs[i], place))
		}
	}
	return allOf(row)
}

func (a *asking) matching(r api.Rule) demand {
	var row []asked
	for i, pattern := range r.Pats {
		row = append(row, a.elements(r.Subs[i], func(place int) bool { return a.finds(pattern, a.value.Keys[place]) })...)
	}
	return allOf(row)
}

func (a *asking) rest(r api.Rule) demand {
	var named marks
	for _, name := range r.Names {
		if place, ok := a.placeOf(a.node, name); ok {
			named = named.put(place)
		}
	}
	isMeant := func(place int) bool {
		isFound := func(pattern string) bool { return a.finds(pattern, a.value.Keys[place]) }
		return !named.has(place) && !slices.ContainsFunc(r.Pats, isFound)
	}
	return allOf(a.elements(r.Subs[0], isMeant))
}

func (a *asking) keys(r api.Rule) demand {
	var row []asked
	first := a.keysOf(a.node)
	for place := range a.value.Keys {
		row = append(row, asked{question: a.questionOf(r.Subs[0], a.scope, first+place), place: itself})
	}
	return allOf(row)
}

// left asks of the elements that have no mark so far.
func (a *asking) left(r api.Rule) demand {
	return allOf(a.elements(r.Subs[0], func(place int) bool { return !a.marks.has(place) }))
}
