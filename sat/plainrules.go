package sat

import (
	"slices"

	"caliper/api"
	"caliper/dec"
	"caliper/utf"
	"caliper/value"
)

func (a *asking) types(r api.Rule) demand {
	return met(slices.ContainsFunc(r.Names, func(name string) bool { return Type(*a.value, name) }))
}

func (a *asking) values(r api.Rule) demand {
	return met(slices.ContainsFunc(r.Vals, func(v api.Value) bool { return value.Equal(*a.value, v) }))
}

func (a *asking) multiple(r api.Rule) demand {
	yes, _ := dec.Multiple(a.value.Num, r.Num)
	return met(yes)
}

func (a *asking) atMost(r api.Rule) demand {
	return met(a.order(r) <= 0)
}

func (a *asking) below(r api.Rule) demand {
	return met(a.order(r) < 0)
}

func (a *asking) atLeast(r api.Rule) demand {
	return met(a.order(r) >= 0)
}

func (a *asking) above(r api.Rule) demand {
	return met(a.order(r) > 0)
}

// order is how the value stands to the rule's number.
func (a *asking) order(r api.Rule) int {
	c, _ := dec.Compare(a.value.Num, r.Num)
	return c
}

func (a *asking) longest(r api.Rule) demand {
	return met(utf.Count(a.value.Text) <= r.N)
}

func (a *asking) shortest(r api.Rule) demand {
	return met(utf.Count(a.value.Text) >= r.N)
}

func (a *asking) pattern(r api.Rule) demand {
	return met(a.finds(r.Pats[0], a.value.Text))
}

func (a *asking) mostElements(r api.Rule) demand {
	return met(len(a.value.List) <= r.N)
}

func (a *asking) leastElements(r api.Rule) demand {
	return met(len(a.value.List) >= r.N)
}

func (a *asking) unique(api.Rule) demand {
	return met(value.Unique(a.value.List))
}

func (a *asking) required(r api.Rule) demand {
	return met(!slices.ContainsFunc(r.Names, a.lacks))
}

func (a *asking) depends(r api.Rule) demand {
	return met(a.lacks(r.Names[0]) || !slices.ContainsFunc(r.Names, a.lacks))
}

// lacks tells whether an object has no such key.
func (a *asking) lacks(key string) bool {
	_, ok := a.placeOf(a.node, key)
	return !ok
}
