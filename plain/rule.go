package plain

import (
	"slices"
	"strings"

	"caliper/api"
)

// noForm stands in Subs instead of a form's number, where there is none.
const noForm = -1

// allTypes are the types that together take every value.
const allTypes = "null boolean number string array object"

// fate is what becomes of a rule.
type fate int

const (
	stays fate = iota // it is as simple as it can be
	turns             // it is another one now, or has fewer Subs
	goes              // every value keeps it
	fails             // no value keeps it, so its form is Never
)

// test asks something of a form by its number.
type test func(form int) bool

// way is how a rule is made simpler, by a test whether a form is a yes, and one whether it is a no.
type way func(r *rule, yes test, no test) fate

// rule is a rule that is made simpler in its place: its lists are its own.
type rule struct {
	api.Rule
	form int // the number of the form that has it
	gone bool
}

// ways has the way of each kind of rules that can be made simpler.
func ways() map[api.RuleKind]way {
	return map[api.RuleKind]way{
		api.RuType:       (*rule).types,
		api.RuEnum:       (*rule).choice,
		api.RuShortest:   (*rule).least,
		api.RuLeastItems: (*rule).least,
		api.RuLeastProps: (*rule).least,
		api.RuRequired:   (*rule).required,
		api.RuDepends:    (*rule).depends,
		api.RuAll:        (*rule).all,
		api.RuAny:        (*rule).some,
		api.RuOne:        (*rule).one,
		api.RuNot:        (*rule).not,
		api.RuIf:         (*rule).condition,
		api.RuWhen:       (*rule).when,
		api.RuRef:        (*rule).ref,
	}
}

func goesIf(needless bool) fate {
	if needless {
		return goes
	}
	return stays
}

func (r *rule) types(_ test, _ test) fate {
	for _, name := range strings.Fields(allTypes) {
		if !slices.Contains(r.Names, name) {
			return stays
		}
	}
	return goes
}

func (r *rule) choice(_ test, _ test) fate {
	switch len(r.Vals) {
	case 0:
		return fails
	case 1:
		r.Kind = api.RuConst
		return turns
	}
	return stays
}

func (r *rule) least(_ test, _ test) fate {
	return goesIf(r.N == 0)
}

func (r *rule) required(_ test, _ test) fate {
	return goesIf(len(r.Names) == 0)
}

// depends goes if the first Name asks for no others.
func (r *rule) depends(_ test, _ test) fate {
	return goesIf(len(r.Names) == 1)
}

func (r *rule) all(yes test, no test) fate {
	if slices.ContainsFunc(r.Subs, no) {
		return fails
	}
	dropped := r.drop(yes)
	if len(r.Subs) == 0 {
		return goes
	}
	return dropped
}

// some is not done with when one Sub is a yes: the others' marks count, too.
func (r *rule) some(yes test, no test) fate {
	dropped := r.drop(no)
	switch len(r.Subs) {
	case 0:
		return fails
	case r.count(yes):
		return goes
	}
	return dropped
}

func (r *rule) one(yes test, no test) fate {
	dropped := r.drop(no)
	switch {
	case len(r.Subs) == 0:
		return fails
	case len(r.Subs) == 1:
		return r.becomeAllOf(r.Subs[0])
	case r.count(yes) > 1:
		return fails
	}
	return dropped
}

func (r *rule) not(yes test, no test) fate {
	if yes(r.Subs[0]) {
		return fails
	}
	return goesIf(no(r.Subs[0]))
}

func (r *rule) condition(yes test, no test) fate {
	switch {
	case yes(r.Subs[0]):
		return r.becomeBranch(r.Subs[1])
	case no(r.Subs[0]):
		return r.becomeBranch(r.Subs[2])
	}
	return stays
}

// when stays also of a no: then it forbids the property.
func (r *rule) when(yes test, _ test) fate {
	return goesIf(yes(r.Subs[0]))
}

func (r *rule) ref(yes test, no test) fate {
	if no(r.Subs[0]) {
		return fails
	}
	return goesIf(yes(r.Subs[0]))
}

func (r *rule) count(such test) int {
	count := 0
	for _, sub := range r.Subs {
		if such(sub) {
			count++
		}
	}
	return count
}

// drop takes Subs away.
func (r *rule) drop(such test) fate {
	before := len(r.Subs)
	r.Subs = slices.DeleteFunc(r.Subs, such)
	if len(r.Subs) < before {
		return turns
	}
	return stays
}

func (r *rule) becomeBranch(sub int) fate {
	if sub == noForm {
		return goes
	}
	return r.becomeAllOf(sub)
}

func (r *rule) becomeAllOf(sub int) fate {
	r.Kind, r.Subs = api.RuAll, []int{sub}
	return turns
}
