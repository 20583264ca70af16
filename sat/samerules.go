package sat

import (
	"caliper/api"
	"caliper/bindings"
)

// subs asks forms of the value itself, but where there is none.
func (a *asking) subs(forms ...int) []asked {
	var row []asked
	for _, form := range forms {
		if form != none {
			row = append(row, asked{question: a.questionOf(form, a.scope, a.node), place: itself})
		}
	}
	return row
}

func (a *asking) allSubs(r api.Rule) demand {
	return allOf(a.subs(r.Subs...))
}

// someSubs asks all, as the marks of all that take the value come.
func (a *asking) someSubs(r api.Rule) demand {
	row := a.subs(r.Subs...)
	return demand{asked: row, least: 1, most: len(row)}
}

func (a *asking) oneSub(r api.Rule) demand {
	return demand{asked: a.subs(r.Subs...), least: 1, most: 1}
}

func (a *asking) noSub(r api.Rule) demand {
	return demand{asked: a.subs(r.Subs...)}
}

// branch asks the condition alone, as long as it is not known which way to go on.
func (a *asking) branch(r api.Rule) demand {
	condition, then, otherwise := r.Subs[0], r.Subs[1], r.Subs[2]
	row := a.subs(condition)
	told, ok := a.known[row[0].question]
	switch {
	case !ok:
		return demand{asked: row, most: len(row), again: true}
	case told.takes:
		return allOf(a.subs(condition, then))
	}
	return allOf(a.subs(otherwise))
}

func (a *asking) when(r api.Rule) demand {
	if a.lacks(r.Names[0]) {
		return met(true)
	}
	return a.allSubs(r)
}

func (a *asking) dynamic(r api.Rule) demand {
	if form := a.scopes.Bound(a.scope, r.Names[0]); form != bindings.None {
		return allOf(a.subs(form))
	}
	return a.allSubs(r)
}
