package ir

import (
	"caliper/api"
	"caliper/shape"
	"caliper/value"
)

func (r *reading) constant(m member) {
	r.put(m, valued(r.copied(m)))
}

func (r *reading) choice(m member) {
	r.put(m, valued(r.copied(m).List...))
}

// copied is what a member holds in new memory: a rule's values share no lists with the schema.
func (r *reading) copied(m member) api.Value {
	v, _ := value.Get(r.whole, m.key)
	return v
}

func (r *reading) number(m member) {
	r.put(m, measured(m.held.Num))
}

func (r *reading) count(m member) {
	r.put(m, counted(shape.Count(m.held)))
}

// countOr is the count that another key of the schema holds, or what holds without it.
func (r *reading) countOr(key string, without int) int {
	held, ok := r.held(key)
	if !ok {
		return without
	}
	return shape.Count(held)
}

func (r *reading) pattern(m member) {
	r.put(m, patterned(m.held.Text))
}

func (r *reading) flag(m member) {
	if m.held.Kind == api.True {
		r.put(m)
	}
}

func (r *reading) names(m member) {
	r.put(m, named(textsOf(m.held)...))
}

func (r *reading) namesByName(m member) {
	for i, key := range m.held.Keys {
		r.put(m, named(key), named(textsOf(m.held.List[i])...))
	}
}

func (r *reading) schema(m member) {
	r.put(m, asking(openForm))
}

func (r *reading) row(m member) {
	r.put(m, asking(open(len(m.held.List))...))
}

func (r *reading) condition(m member) {
	r.put(m, asking(openForm, r.branch(thenKey), r.branch(elseKey)))
}

// branch is the Sub of a condition's key, which may be missing.
func (r *reading) branch(key string) int {
	if _, ok := r.held(key); !ok {
		return noForm
	}
	return openForm
}

func (r *reading) schemasByName(m member) {
	for _, key := range m.held.Keys {
		r.put(m, named(key), asking(openForm))
	}
}

func (r *reading) items(m member) {
	ahead, _ := r.held("prefixItems")
	r.put(m, counted(len(ahead.List)), asking(openForm))
}

func (r *reading) contains(m member) {
	r.put(m, counted(r.countOr("minContains", 1)), limited(r.countOr("maxContains", -1)), asking(openForm))
}

func (r *reading) properties(m member) {
	r.put(m, named(m.held.Keys...), asking(open(len(m.held.List))...))
}

func (r *reading) matching(m member) {
	r.put(m, patterned(m.held.Keys...), asking(open(len(m.held.List))...))
}

func (r *reading) rest(m member) {
	properties, _ := r.held("properties")
	patterns, _ := r.held("patternProperties")
	r.put(m, named(properties.Keys...), patterned(patterns.Keys...), asking(openForm))
}
