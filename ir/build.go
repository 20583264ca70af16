package ir

import (
	"slices"

	"caliper/api"
)

// source is what an edge comes from: a schema, and a key of it.
type source struct {
	from int
	word string
}

// slot is a Sub by its place in a form: the rule's number, the Sub's number there.
type slot struct {
	rule int
	sub  int
}

// building are a table's forms, as far as they have come, and the Subs that wait for their edges, in the order in which they take them.
type building struct {
	forms   []api.Form
	waiting map[source][]slot
}

// add puts a schema's form behind the others.
func (b *building) add(s api.Schema) {
	form, keys := read(alone(s.V))
	form.Resource = s.Resource
	for i, rule := range form.Rules {
		for sub, to := range rule.Subs {
			if to != noForm {
				from := source{from: len(b.forms), word: wordOf(keys[i], sub)}
				b.waiting[from] = append(b.waiting[from], slot{rule: i, sub: sub})
			}
		}
	}
	b.forms = append(b.forms, form)
}

// wordOf is the key that a Sub comes from: that of its rule, but for then and else, which have no rule of their own.
func wordOf(key string, sub int) string {
	switch {
	case key == ifKey && sub == 1:
		return thenKey
	case key == ifKey && sub == 2:
		return elseKey
	}
	return key
}

// lead puts an edge into the first Sub that waits for one like it. Many edges find none: of $defs, of a dynamic reference behind its first.
func (b *building) lead(e api.Edge) {
	from := source{from: e.From, word: e.Word}
	slots := b.waiting[from]
	switch len(slots) {
	case 0:
		return
	case 1:
		delete(b.waiting, from)
	default:
		b.waiting[from] = slots[1:]
	}
	rule := &b.forms[e.From].Rules[slots[0].rule]
	rule.Subs[slots[0].sub] = e.To
	if e.Word == dynamicKey && e.Dynamic != "" {
		rule.Kind, rule.Names = api.RuDynamic, []string{e.Dynamic}
	}
}

// dynsOf are the anchors that are there for dynamic references.
func dynsOf(anchors []api.Anchor) []api.Dyn {
	var dyns []api.Dyn
	for _, a := range anchors {
		if a.Dynamic {
			dyns = append(dyns, api.Dyn{Name: a.Name, Resource: a.Resource, Form: a.Schema})
		}
	}
	return dyns
}

// alone is a schema with true in place of each schema that its members hold. Its rules are the same, as they do not hang on what is in these; and each level of a nest is asked by itself: with all that is below it, that would cost the square of the depth.
func alone(v api.Value) api.Value {
	if v.Kind != api.Object {
		return v
	}
	v.List = slices.Clone(v.List)
	for i := range min(len(v.Keys), len(v.List)) {
		switch v.Keys[i] {
		case "additionalProperties", "contains", "contentSchema", elseKey, ifKey, "items", "not", "propertyNames", thenKey, "unevaluatedItems", "unevaluatedProperties":
			v.List[i] = emptied(v.List[i])
		case "$defs", "allOf", "anyOf", "dependentSchemas", "oneOf", "patternProperties", "prefixItems", "properties":
			v.List[i] = withEmptied(v.List[i])
		}
	}
	return v
}

// emptied is true in place of an object. What is no schema stays, so that it is found.
func emptied(v api.Value) api.Value {
	if v.Kind == api.Object {
		return api.Value{Kind: api.True}
	}
	return v
}

func withEmptied(v api.Value) api.Value {
	v.List = slices.Clone(v.List)
	for i := range v.List {
		v.List[i] = emptied(v.List[i])
	}
	return v
}
