package ir

import (
	"slices"
	"strings"
	"testing"

	"caliper/api"
)

// pairs are edges of the same instance, from pairs of numbers.
func pairs(numbers ...int) []api.Edge {
	var all []api.Edge
	for i := 0; i < len(numbers); i += 2 {
		all = append(all, api.Edge{From: numbers[i], To: numbers[i+1], Same: true})
	}
	return all
}

// sames asks for what Same answers.
func sames(t *testing.T, p api.Prog, numbers ...int) {
	t.Helper()
	if got, want := Same(p), pairs(numbers...); !slices.Equal(got, want) {
		t.Errorf("Same: %v, not %v:\n%s", got, want, told(p))
	}
}

// P16.4: the kinds that ask of the same instance, and those that do not.
func TestSameKinds(t *testing.T) {
	kinds := strings.Fields("All Any One Not If When Ref Dynamic")
	eachGood(func(r api.Rule) {
		var want []int
		for _, to := range r.Subs {
			if slices.Contains(kinds, names()[r.Kind]) && to != -1 {
				want = append(want, 1, to)
			}
		}
		sames(t, within(r), want...)
	})
	sames(t, within())
	sames(t, within(api.Rule{Kind: api.RuAll}, api.Rule{Kind: api.RuAny}, api.Rule{Kind: api.RuOne}))
	sames(t, within(api.Rule{Kind: api.RuIf, Subs: []int{2, -1, -1}}), 1, 2)
	sames(t, within(api.Rule{Kind: api.RuIf, Subs: []int{2, 0, -1}}), 1, 2, 1, 0)
	sames(t, within(api.Rule{Kind: api.RuIf, Subs: []int{2, -1, 1}}), 1, 2, 1, 1)
	sames(t, within(api.Rule{Kind: api.RuIf, Subs: []int{2, 1, 0}}), 1, 2, 1, 1, 1, 0)
}

// P16.4: form by form, rule by rule, sub by sub, as often as they come.
func TestSameOrder(t *testing.T) {
	p := api.Prog{
		Forms: []api.Form{
			{Rules: []api.Rule{{Kind: api.RuOne, Subs: []int{2, 1, 2}}, {Kind: api.RuItems, Subs: []int{1}}, {Kind: api.RuAll, Subs: []int{0}}}},
			{},
			{Rules: []api.Rule{{Kind: api.RuRef, Subs: []int{1}}, {Kind: api.RuWhen, Names: []string{"a"}, Subs: []int{0}}, {Kind: api.RuRef, Subs: []int{1}}}},
		},
		Dyns: []api.Dyn{{Name: "a", Form: 1}},
		Root: 1,
	}
	sames(t, p, 0, 2, 0, 1, 0, 2, 0, 0, 2, 1, 2, 0, 2, 1)
}

// dyn is a dynamic anchor.
func dyn(name string, resource, form int) api.Dyn {
	return api.Dyn{Name: name, Resource: resource, Form: form}
}

// P16.4: behind a dynamic rule's Sub the other forms of its Name, in the order of the Dyns.
func TestSameDynamics(t *testing.T) {
	rule := api.Rule{Kind: api.RuDynamic, Names: []string{"d"}, Subs: []int{1}}
	with := func(dyns ...api.Dyn) api.Prog {
		return api.Prog{Forms: []api.Form{{Rules: []api.Rule{rule}}, {}, {}, {}}, Dyns: dyns}
	}
	sames(t, with(), 0, 1)
	sames(t, with(dyn("e", 0, 2), dyn("D", 0, 3), dyn("", 0, 0)), 0, 1)
	sames(t, with(dyn("d", 0, 1)), 0, 1)
	sames(t, with(dyn("d", 0, 3)), 0, 1, 0, 3)
	sames(t, with(dyn("d", 0, 3), dyn("e", 0, 2), dyn("d", 1, 1), dyn("d", 2, 0), dyn("d", 3, 2)), 0, 1, 0, 3, 0, 0, 0, 2)
	sames(t, with(dyn("d", 2, 2), dyn("d", 3, 2)), 0, 1, 0, 2, 0, 2)
	p := with(dyn("d", 0, 3))
	p.Forms[0].Rules = []api.Rule{{Kind: api.RuRef, Subs: []int{2}}, rule, {Kind: api.RuNot, Subs: []int{0}}, {Kind: api.RuWhen, Names: []string{"d"}, Subs: []int{1}}}
	p.Forms[2].Rules = []api.Rule{rule}
	sames(t, p, 0, 2, 0, 1, 0, 3, 0, 0, 0, 1, 2, 1, 2, 3)
}

// P16.4: nothing of a program that may not be.
func TestSameOfNothing(t *testing.T) {
	sames(t, api.Prog{})
	good := within(api.Rule{Kind: api.RuRef, Subs: []int{2}})
	sames(t, good, 1, 2)
	for _, spoilt := range []func(*api.Prog){
		func(p *api.Prog) { p.Root = 3 },
		func(p *api.Prog) { p.Forms[0].Resource = -1 },
		func(p *api.Prog) { p.Forms[2].Rules = []api.Rule{{Kind: api.RuUnique}} },
		func(p *api.Prog) { p.Forms[0].Rules = []api.Rule{{}} },
		func(p *api.Prog) { p.Forms[0].Rules = []api.Rule{{Kind: api.RuDynamic, Subs: []int{0}}} },
		func(p *api.Prog) { p.Forms[0].Rules = []api.Rule{{Kind: api.RuDynamic, Names: []string{"a"}}} },
		func(p *api.Prog) { p.Forms[0].Rules = []api.Rule{{Kind: api.RuIf}} },
		func(p *api.Prog) { p.Dyns = []api.Dyn{dyn("a", 0, 0), dyn("a", 0, 1)} },
		func(p *api.Prog) { p.Dyns = []api.Dyn{dyn("a", 0, 3)} },
	} {
		p := within(api.Rule{Kind: api.RuRef, Subs: []int{2}})
		spoilt(&p)
		checked(t, p, api.ErrIR)
		if l := Same(p); len(l) > 0 {
			t.Error(l)
		}
	}
}
