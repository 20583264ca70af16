package scope

import (
	"caliper/api"
	"caliper/bindings"
	"caliper/copies"
)

// instance is a form in a scope, in which its resource is entered.
type instance struct {
	form  int
	scope int
}

// closing is a program of which a program of instances is made.
type closing struct {
	forms  []api.Form
	scopes *bindings.Scopes
	known  map[instance]int
	order  []instance
	made   []api.Form // those of the instances in their order, as far as they have been asked; their lists, but for Subs, are those of forms
}

// begin has Root's instance alone.
func begin(p api.Prog) *closing {
	c := &closing{forms: p.Forms, scopes: bindings.New(p.Dyns), known: map[instance]int{}}
	c.numberOf(p.Root, bindings.Open)
	return c
}

// numberOf is the number of the instance that a form is when it is asked in a scope.
func (c *closing) numberOf(form int, scope int) int {
	i := instance{form: form, scope: c.scopes.Enter(scope, c.forms[form].Resource)}
	number, ok := c.known[i]
	if !ok {
		number = len(c.order)
		c.known[i] = number
		c.order = append(c.order, i)
	}
	return number
}

// spread finds all instances, and tells whether there are no more than most.
func (c *closing) spread(most int) bool {
	for n := 0; n < len(c.order) && len(c.order) <= most; n++ {
		c.made = append(c.made, c.form(n))
	}
	return len(c.order) <= most
}

func (c *closing) form(number int) api.Form {
	i := c.order[number]
	f := api.Form{Never: c.forms[i.form].Never, Resource: number}
	for _, r := range c.forms[i.form].Rules {
		f.Rules = append(f.Rules, c.rule(r, i.scope))
	}
	return f
}

func (c *closing) rule(r api.Rule, scope int) api.Rule {
	subs := make([]int, len(r.Subs))
	for i, sub := range r.Subs {
		subs[i] = none
		if sub != none {
			subs[i] = c.numberOf(c.asked(r, sub, scope), scope)
		}
	}
	if r.Kind == api.RuDynamic {
		r.Kind, r.Names = api.RuRef, nil
	}
	r.Subs = subs
	return r
}

// asked is the form that a rule asks by one of its Subs.
func (c *closing) asked(r api.Rule, sub int, scope int) int {
	if r.Kind != api.RuDynamic {
		return sub
	}
	if form := c.scopes.Bound(scope, r.Names[0]); form != bindings.None {
		return form
	}
	return sub
}

// program is what was made, in memory of its own. Only now, as there may be too many instances to copy values for them.
func (c *closing) program() api.Prog {
	for _, f := range c.made {
		for i, r := range f.Rules {
			f.Rules[i] = copies.Rule(r)
		}
	}
	return api.Prog{Forms: c.made}
}

// originals are the forms that the instances are of.
func (c *closing) originals() []int {
	numbers := make([]int, len(c.order))
	for n, i := range c.order {
		numbers[n] = i.form
	}
	return numbers
}
