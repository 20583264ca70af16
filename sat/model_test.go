package sat

import (
	"slices"

	"caliper/api"
	"caliper/dec"
	"caliper/nfa"
	"caliper/pike"
	"caliper/rx"
	"caliper/scope"
	"caliper/utf"
	"caliper/value"
)

// model is the chapter's words as they stand: forms are asked in calls in one another, in scopes that are rows, and nothing is kept.
type model struct {
	api.Prog
	steps int // how many are left
}

// modelSat is what Sat should answer; not ok, if it takes too many steps.
func modelSat(p api.Prog, v api.Value, steps int) (takes bool, marks []int, ok bool) {
	m := &model{Prog: p, steps: steps}
	open := slices.Repeat([]int{-1}, len(scope.Names(p)))
	takes, set := m.takes(p.Root, open, v)
	for i := range v.List {
		if set[i] {
			marks = append(marks, i)
		}
	}
	return takes, marks, m.steps > 0
}

// takes asks a form with its Resource entered.
func (m *model) takes(form int, around []int, v api.Value) (bool, map[int]bool) {
	f := m.Forms[form]
	if m.steps--; f.Never || m.steps < 0 {
		return false, nil
	}
	s := scope.Enter(m.Prog, around, f.Resource)
	marks := map[int]bool{}
	for _, r := range f.Rules {
		if !m.keeps(r, s, v, marks) {
			return false, nil
		}
	}
	return true, marks
}

// keeps asks a rule, which puts its marks to those so far.
func (m *model) keeps(r api.Rule, s []int, v api.Value, marks map[int]bool) bool {
	switch {
	case r.Kind <= api.RuEnum:
		return modelOfAll(r, v)
	case r.Kind <= api.RuMinOut:
		return v.Kind != api.Number || modelNumber(r, v.Num)
	case r.Kind <= api.RuPattern:
		return v.Kind != api.String || modelText(r, v.Text)
	case r.Kind <= api.RuUnique:
		return v.Kind != api.Array || modelArray(r, v.List)
	case r.Kind <= api.RuDepends:
		return v.Kind != api.Object || modelObject(r, v)
	case r.Kind <= api.RuDynamic:
		return m.same(r, s, v, marks)
	case r.Kind <= api.RuContains || r.Kind == api.RuLeftItems:
		return v.Kind != api.Array || m.elements(r, s, v, marks)
	}
	return v.Kind != api.Object || m.members(r, s, v, marks)
}

func modelOfAll(r api.Rule, v api.Value) bool {
	for _, name := range r.Names {
		if Type(v, name) {
			return true
		}
	}
	for _, other := range r.Vals {
		if value.Equal(v, other) {
			return true
		}
	}
	return false
}

func modelNumber(r api.Rule, n api.Dec) bool {
	order, _ := dec.Compare(n, r.Num)
	switch r.Kind {
	case api.RuMax:
		return order <= 0
	case api.RuMaxOut:
		return order < 0
	case api.RuMin:
		return order >= 0
	case api.RuMinOut:
		return order > 0
	}
	yes, _ := dec.Multiple(n, r.Num)
	return yes
}

func modelText(r api.Rule, text string) bool {
	switch r.Kind {
	case api.RuLongest:
		return utf.Count(text) <= r.N
	case api.RuShortest:
		return utf.Count(text) >= r.N
	}
	return modelFinds(r.Pats[0], text)
}

func modelFinds(pattern, text string) bool {
	x, _ := rx.Parse(pattern)
	states, _ := nfa.Compile(x, api.MaxStates)
	ok, _, _ := pike.Search(states, text)
	return ok
}

func modelArray(r api.Rule, list []api.Value) bool {
	switch r.Kind {
	case api.RuMostItems:
		return len(list) <= r.N
	case api.RuLeastItems:
		return len(list) >= r.N
	}
	return value.Unique(list)
}

func modelObject(r api.Rule, v api.Value) bool {
	switch r.Kind {
	case api.RuMostProps:
		return len(v.List) <= r.N
	case api.RuLeastProps:
		return len(v.List) >= r.N
	}
	for i, name := range r.Names {
		if _, ok := value.Get(v, name); !ok {
			return i == 0 && r.Kind == api.RuDepends
		}
	}
	return true
}

// same asks what asks of the value itself.
func (m *model) same(r api.Rule, s []int, v api.Value, marks map[int]bool) bool {
	ask := func(form int) bool {
		taken, come := m.takes(form, s, v)
		for i := range come {
			marks[i] = true
		}
		return taken
	}
	switch r.Kind {
	case api.RuNot:
		taken, _ := m.takes(r.Subs[0], s, v)
		return !taken
	case api.RuIf:
		sub := r.Subs[2]
		if ask(r.Subs[0]) {
			sub = r.Subs[1]
		}
		return sub == -1 || ask(sub)
	case api.RuWhen:
		_, has := value.Get(v, r.Names[0])
		return !has || ask(r.Subs[0])
	case api.RuDynamic:
		if form := scope.Bound(m.Prog, s, r.Names[0]); form != -1 {
			return ask(form)
		}
		return ask(r.Subs[0])
	}
	taken := 0
	for _, sub := range r.Subs {
		if ask(sub) {
			taken++
		}
	}
	switch r.Kind {
	case api.RuAny:
		return taken > 0
	case api.RuOne:
		return taken == 1
	}
	return taken == len(r.Subs)
}

// elements asks what asks of an array's elements.
func (m *model) elements(r api.Rule, s []int, v api.Value, marks map[int]bool) bool {
	so := map[int]bool{}
	for i := range marks {
		so[i] = true
	}
	taken, kept := 0, true
	for i, element := range v.List {
		sub := r.Subs
		switch {
		case r.Kind == api.RuPrefix && i >= len(r.Subs), r.Kind == api.RuItems && i < r.N, r.Kind == api.RuLeftItems && so[i]:
			continue
		case r.Kind == api.RuPrefix:
			sub = r.Subs[i:]
		}
		yes, _ := m.takes(sub[0], s, element)
		kept = kept && yes
		if yes {
			taken++
		}
		if yes || r.Kind != api.RuContains {
			marks[i] = true
		}
	}
	if r.Kind == api.RuContains {
		return taken >= r.N && (r.M == -1 || taken <= r.M)
	}
	return kept
}

// members asks what asks of an object's members and keys.
func (m *model) members(r api.Rule, s []int, v api.Value, marks map[int]bool) bool {
	so := map[int]bool{}
	for i := range marks {
		so[i] = true
	}
	ask := func(sub, i int) bool {
		marks[i] = true
		yes, _ := m.takes(sub, s, v.List[i])
		return yes
	}
	kept := true
	for i, key := range v.Keys {
		switch r.Kind {
		case api.RuNames:
			yes, _ := m.takes(r.Subs[0], s, api.Value{Kind: api.String, Text: key})
			kept = kept && yes
		case api.RuLeftProps:
			kept = kept && (so[i] || ask(r.Subs[0], i))
		case api.RuRest:
			found := slices.ContainsFunc(r.Pats, func(p string) bool { return modelFinds(p, key) })
			kept = kept && (found || slices.Contains(r.Names, key) || ask(r.Subs[0], i))
		}
		for j, name := range r.Names {
			if r.Kind == api.RuProps && name == key {
				kept = ask(r.Subs[j], i) && kept
			}
		}
		for j, pattern := range r.Pats {
			if r.Kind == api.RuMatching && modelFinds(pattern, key) {
				kept = ask(r.Subs[j], i) && kept
			}
		}
	}
	return kept
}
