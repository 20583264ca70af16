package scope

import (
	"testing"

	"caliper/api"
	"caliper/bundle"
	"caliper/ir"
	"caliper/refs"
)

var unique = api.Rule{Kind: api.RuUnique}

// Chapter 18, example 1.
func TestExample(t *testing.T) {
	p := api.Prog{Forms: []api.Form{form(0), form(0), form(0, ref(0))}, Root: 2}
	closed(t, p, []int{2, 0}, form(0, ref(1)), form(0))
}

// P18.2: without Dyns there is an instance for each form that Root reaches, as they come.
func TestCloseWithoutDyns(t *testing.T) {
	closed(t, api.Prog{Forms: []api.Form{form(0)}}, []int{0}, form(0))
	closed(t, api.Prog{Forms: []api.Form{form(0, unique)}}, []int{0}, form(0, unique))
	closed(t, api.Prog{Forms: []api.Form{{Never: true}}}, []int{0}, api.Form{Never: true})
	closed(t, api.Prog{Forms: []api.Form{{Never: true, Rules: []api.Rule{}}}, Dyns: []api.Dyn{}}, []int{0}, api.Form{Never: true})
	// From itself, and in the same scope twice.
	closed(t, api.Prog{Forms: []api.Form{form(0, ref(0))}}, []int{0}, form(0, ref(0)))
	closed(t, api.Prog{Forms: []api.Form{form(0), form(0, asking(api.RuAll, 1, 0, 0, 1), ref(0))}, Root: 1}, []int{1, 0}, form(0, asking(api.RuAll, 0, 1, 1, 0), ref(1)), form(0))
	// Resources change nothing, where none of them has a Dyn.
	p := api.Prog{Forms: []api.Form{form(2, ref(1)), form(0, ref(2)), form(1, ref(0))}}
	closed(t, p, []int{0, 1, 2}, form(0, ref(1)), form(0, ref(2)), form(0, ref(0)))
	// What is not reached does not come.
	p = api.Prog{Forms: []api.Form{form(0, ref(3)), form(1, unique), form(0, ref(4)), {Never: true}, form(0, asking(api.RuNot, 2))}, Root: 2}
	closed(t, p, []int{2, 4}, form(0, ref(1)), form(0, asking(api.RuNot, 0)))
	p.Root = 0
	closed(t, p, []int{0, 3}, form(0, ref(1)), api.Form{Never: true})
	p.Root = 3
	closed(t, p, []int{3}, api.Form{Never: true})
	p.Root = 1
	closed(t, p, []int{1}, form(0, unique))
}

// P18.2: instances come in order: rule by rule, Sub by Sub, behind those that have come, and not one's own first.
func TestCloseOrder(t *testing.T) {
	p := api.Prog{Root: 7, Forms: []api.Form{
		form(0),
		form(0, ref(0)),
		form(0, ref(6)),
		form(0, asking(api.RuPrefix, 5, 2)),
		form(0),
		form(0, ref(3)),
		form(0, unique),
		form(0, asking(api.RuAll, 3, 1), unique, asking(api.RuAny, 4, 3), ref(2)),
	}}
	closed(t, p, []int{7, 3, 1, 4, 2, 5, 0, 6},
		form(0, asking(api.RuAll, 1, 2), unique, asking(api.RuAny, 3, 1), ref(4)),
		form(0, asking(api.RuPrefix, 5, 4)),
		form(0, ref(6)),
		form(0),
		form(0, ref(7)),
		form(0, ref(1)),
		form(0),
		form(0, unique))
}

// P18.2: a Sub that is -1 stays, and asks nothing.
func TestCloseNoSub(t *testing.T) {
	branches := func(subs ...int) api.Rule { return asking(api.RuIf, subs...) }
	p := api.Prog{Forms: []api.Form{form(0), form(0), form(0, branches(1, -1, -1), branches(1, -1, 0), branches(0, 2, -1), branches(2, 1, 0))}, Root: 2}
	closed(t, p, []int{2, 1, 0}, form(0, branches(1, -1, -1), branches(1, -1, 2), branches(2, 0, -1), branches(0, 1, 2)), form(0), form(0))
	p.Dyns = []api.Dyn{dyn("n", 0, 1)}
	closed(t, p, []int{2, 1, 0}, form(0, branches(1, -1, -1), branches(1, -1, 2), branches(2, 0, -1), branches(0, 1, 2)), form(0), form(0))
}

// P18.2: a dynamic reference whose name has no form in the scope asks its Sub.
func TestCloseUnbound(t *testing.T) {
	forms := []api.Form{form(0, dynamic("n", 1)), form(0, unique), form(2)}
	closed(t, api.Prog{Forms: forms}, []int{0, 1}, form(0, ref(1)), form(0, unique))
	closed(t, api.Prog{Forms: forms, Dyns: []api.Dyn{dyn("n", 2, 2)}}, []int{0, 1}, form(0, ref(1)), form(0, unique))
	closed(t, api.Prog{Forms: forms, Dyns: []api.Dyn{dyn("m", 0, 2), dyn("N", 0, 2), dyn("", 0, 2)}}, []int{0, 1}, form(0, ref(1)), form(0, unique))
	// The Sub's Resource is entered only behind it.
	p := api.Prog{Forms: []api.Form{form(0, dynamic("n", 1)), form(1, dynamic("n", 0), unique), form(2)}, Dyns: []api.Dyn{dyn("n", 1, 2)}}
	closed(t, p, []int{0, 1, 2}, form(0, ref(1)), form(0, ref(2), unique), form(0))
}

// P18.2: a dynamic reference whose name has a form in the scope asks that, whatever its Sub.
func TestCloseBound(t *testing.T) {
	p := api.Prog{Forms: []api.Form{form(0, dynamic("n", 1)), form(1, unique), form(2)}, Dyns: []api.Dyn{dyn("n", 0, 2), dyn("n", 1, 1)}}
	closed(t, p, []int{0, 2}, form(0, ref(1)), form(0))
	p.Forms[0].Rules = []api.Rule{dynamic("n", 1), ref(1), dynamic("m", 1), dynamic("n", 0)}
	closed(t, p, []int{0, 2, 1}, form(0, ref(1), ref(2), ref(2), ref(1)), form(0), form(0, unique))
	p.Dyns[0].Form = 0
	closed(t, p, []int{0, 1}, form(0, ref(0), ref(1), ref(1), ref(0)), form(0, unique))
	// Root's Resource is entered first, be it Root or not.
	p = api.Prog{Forms: []api.Form{form(0), {Never: true}, form(1, dynamic("n", 0))}, Dyns: []api.Dyn{dyn("n", 0, 0), dyn("n", 1, 1)}, Root: 2}
	closed(t, p, []int{2, 1}, form(0, ref(1)), api.Form{Never: true})
}

// P18.2: a form that is asked in two scopes has two instances; of one that is asked again in a scope that has come there is no other.
func TestCloseTwoScopes(t *testing.T) {
	p := api.Prog{
		Forms: []api.Form{form(0, asking(api.RuAll, 1, 2, 3, 1)), form(1, ref(3)), form(2, ref(3)), form(0, dynamic("n", 4)), form(0, unique)},
		Dyns:  []api.Dyn{dyn("n", 1, 1), dyn("n", 2, 2)},
	}
	closed(t, p, []int{0, 1, 2, 3, 3, 3, 4},
		form(0, asking(api.RuAll, 1, 2, 3, 1)),
		form(0, ref(4)),
		form(0, ref(5)),
		form(0, ref(6)),
		form(0, ref(1)),
		form(0, ref(2)),
		form(0, unique))
	// The same form bound from two resources makes one scope.
	p.Dyns = []api.Dyn{dyn("n", 1, 4), dyn("n", 2, 4)}
	closed(t, p, []int{0, 1, 2, 3, 3, 4, 4},
		form(0, asking(api.RuAll, 1, 2, 3, 1)),
		form(0, ref(4)),
		form(0, ref(4)),
		form(0, ref(5)),
		form(0, ref(6)),
		form(0, unique),
		form(0, unique))
	// A scope counts, even if nothing behind it asks by a dynamic reference.
	p = api.Prog{Forms: []api.Form{form(0, ref(1), ref(2)), form(1, ref(2)), form(0)}, Dyns: []api.Dyn{dyn("n", 1, 1)}}
	closed(t, p, []int{0, 1, 2, 2}, form(0, ref(1), ref(2)), form(0, ref(3)), form(0), form(0))
	// From itself, in another scope: one that comes back with its own Resource entered.
	p = api.Prog{Forms: []api.Form{form(0, ref(1)), form(1, ref(0), dynamic("n", 1))}, Dyns: []api.Dyn{dyn("n", 1, 1)}}
	closed(t, p, []int{0, 1, 0}, form(0, ref(1)), form(0, ref(2), ref(1)), form(0, ref(1)))
}

// P18.2: the form bound may be in a Resource that has Dyns of its own, which is entered then, but not the Sub's.
func TestCloseBoundFormEnters(t *testing.T) {
	p := api.Prog{
		Forms: []api.Form{form(0, dynamic("n", 2)), form(1, dynamic("m", 2), dynamic("n", 2), dynamic("k", 2)), form(2, unique), form(1), form(0)},
		Dyns:  []api.Dyn{dyn("n", 0, 1), dyn("n", 1, 3), dyn("m", 1, 3), dyn("k", 2, 4), dyn("m", 2, 4)},
	}
	closed(t, p, []int{0, 1, 3, 2},
		form(0, ref(1)),
		form(0, ref(2), ref(1), ref(3)),
		form(0),
		form(0, unique))
}

// P18.2: names have scopes' places of their own.
func TestCloseSeveralNames(t *testing.T) {
	p := api.Prog{
		Forms: []api.Form{form(0, ref(1)), form(1, ref(2)), form(2, dynamic("a", 5), dynamic("b", 5), dynamic("c", 5), dynamic("", 5)), form(0), form(0), form(0)},
		Dyns:  []api.Dyn{dyn("c", 2, 3), dyn("b", 1, 4), dyn("a", 0, 3), dyn("b", 2, 3), dyn("a", 2, 4), dyn("c", 3, 4)},
	}
	closed(t, p, []int{0, 1, 2, 3, 4, 5}, form(0, ref(1)), form(0, ref(2)), form(0, ref(3), ref(4), ref(3), ref(5)), form(0), form(0), form(0))
}

// P18.2: rules of all kinds keep all but their Subs' numbers.
func TestCloseKeepsRules(t *testing.T) {
	vals := parsed(`[{"b":[1,{"c":[]}],"a":"x"},null,-2.5e7]`).List
	rules := func(a, b int) []api.Rule {
		return []api.Rule{
			{Kind: api.RuType, Names: []string{"null", "integer", "null"}},
			{Kind: api.RuConst, Vals: vals[:1]},
			{Kind: api.RuEnum, Vals: vals},
			{Kind: api.RuEnum},
			{Kind: api.RuMultiple, Num: api.Dec{Digits: "5", Exp: -1}},
			{Kind: api.RuMinOut, Num: api.Dec{Neg: true, Digits: "25"}},
			{Kind: api.RuLongest, N: 7},
			{Kind: api.RuPattern, Pats: []string{"^a"}},
			{Kind: api.RuLeastProps, N: 2},
			{Kind: api.RuRequired, Names: []string{"b", "a"}},
			{Kind: api.RuDepends, Names: []string{"a", "c"}},
			asking(api.RuAll), asking(api.RuAny, b), asking(api.RuOne, b, a), asking(api.RuNot, a), asking(api.RuIf, b, a, b),
			{Kind: api.RuWhen, Names: []string{"n"}, Subs: []int{b}},
			asking(api.RuPrefix, a, b),
			{Kind: api.RuItems, N: 2, Subs: []int{a}},
			{Kind: api.RuContains, N: 3, M: -1, Subs: []int{b}},
			{Kind: api.RuContains, M: 4, Subs: []int{a}},
			{Kind: api.RuProps, Names: []string{"y", "x"}, Subs: []int{b, a}},
			{Kind: api.RuMatching, Pats: []string{"x", ""}, Subs: []int{a, b}},
			{Kind: api.RuRest, Names: []string{"y", "x"}, Pats: []string{"x", ""}, Subs: []int{b}},
			asking(api.RuNames, a), asking(api.RuLeftItems, b), asking(api.RuLeftProps, a),
			unique,
		}
	}
	p := api.Prog{Forms: []api.Form{{Never: true, Resource: 2}, form(1, rules(1, 0)...), form(0, unique)}, Root: 1}
	closed(t, p, []int{1, 0}, form(0, rules(0, 1)...), api.Form{Never: true})
	p.Dyns = []api.Dyn{dyn("n", 2, 1)}
	closed(t, p, []int{1, 0}, form(0, rules(0, 1)...), api.Form{Never: true})
	p.Dyns = append(p.Dyns, dyn("a", 1, 0))
	closed(t, p, []int{1, 0}, form(0, rules(0, 1)...), api.Form{Never: true})
}

// P18.2: as many instances as most; one more is too many, wherever it comes.
func TestCloseMost(t *testing.T) {
	chain := api.Prog{Forms: []api.Form{form(0, ref(1)), form(0, ref(2)), form(0, ref(3)), form(0)}}
	closed(t, chain, []int{0, 1, 2, 3}, form(0, ref(1)), form(0, ref(2)), form(0, ref(3)), form(0))
	row := api.Prog{Forms: []api.Form{form(0, asking(api.RuAll, 1, 2, 3)), form(0), form(0), form(0)}}
	closed(t, row, []int{0, 1, 2, 3}, form(0, asking(api.RuAll, 1, 2, 3)), form(0), form(0), form(0))
	for most := range 4 {
		refused(t, chain, most, api.ErrMany)
		refused(t, row, most, api.ErrMany)
	}
	// Forms that are not reached do not count.
	row.Root = 3
	closed(t, row, []int{3}, form(0))
}

// P18.2: ErrIR, of programs that may not be, and ahead of ErrMany.
func TestCloseRefuses(t *testing.T) {
	long := api.Form{Rules: []api.Rule{ref(0), ref(7)}}
	for i, p := range []api.Prog{
		{},
		{Root: 1, Forms: make([]api.Form, 1)},
		{Root: -1, Forms: make([]api.Form, 1)},
		{Forms: []api.Form{form(1)}},
		{Forms: []api.Form{form(0), form(-1)}},
		{Forms: []api.Form{{Never: true, Rules: []api.Rule{unique}}}},
		{Forms: []api.Form{form(0, ref(1))}},
		{Forms: []api.Form{form(0, ref(-1))}},
		{Forms: []api.Form{form(0, ref(-2))}},
		{Forms: []api.Form{form(0), long}},
		{Forms: []api.Form{form(0, asking(api.RuIf, -1, 0, 0))}},
		{Forms: []api.Form{form(0, asking(api.RuIf, 0, -2, 0))}},
		{Forms: []api.Form{form(0, asking(api.RuIf, 0, 0))}},
		{Forms: []api.Form{form(0, api.Rule{Kind: api.RuDynamic, Subs: []int{0}})}},
		{Forms: []api.Form{form(0, api.Rule{Kind: api.RuDynamic, Names: []string{"n"}})}},
		{Forms: []api.Form{form(0, api.Rule{Kind: api.RuDynamic, Names: []string{"n", "m"}, Subs: []int{0}})}},
		{Forms: []api.Form{form(0, dynamic("\xff", 0))}},
		{Forms: []api.Form{form(0, dynamic("n", 3))}},
		{Forms: []api.Form{form(0, api.Rule{})}},
		{Forms: []api.Form{form(0, api.Rule{Kind: 36})}},
		{Forms: make([]api.Form, 1), Dyns: []api.Dyn{dyn("n", 1, 0)}},
		{Forms: make([]api.Form, 1), Dyns: []api.Dyn{dyn("n", 0, 1)}},
		{Forms: make([]api.Form, 1), Dyns: []api.Dyn{dyn("n", -1, 0)}},
		{Forms: make([]api.Form, 1), Dyns: []api.Dyn{dyn("n", 0, -1)}},
		{Forms: make([]api.Form, 1), Dyns: []api.Dyn{dyn("\xff", 0, 0)}},
		{Forms: make([]api.Form, 2), Dyns: []api.Dyn{dyn("n", 0, 0), dyn("m", 0, 0), dyn("n", 0, 1)}},
	} {
		before := told(p)
		if ir.Check(p) != api.ErrIR {
			t.Error("may be:", i)
		}
		for _, most := range []int{9, 1, 0, -1} {
			refused(t, p, most, api.ErrIR)
		}
		if told(p) != before {
			t.Error("changed:", i)
		}
	}
}

// P18.2: documents whose dynamic references are bound by the one that is asked first.
func TestCloseDocuments(t *testing.T) {
	table, fault := bundle.Read([]api.Doc{
		{Uri: "x:/tree", Data: []byte(`{"$dynamicAnchor":"node","properties":{"children":{"items":{"$dynamicRef":"#node"}}}}`)},
		{Uri: "x:/strict", Data: []byte(`{"$dynamicAnchor":"node","$ref":"tree","unevaluatedProperties":false}`)},
	})
	if fault.Code != api.OK {
		t.Fatal(fault)
	}
	edges, fault := refs.Edges(table)
	if fault.Code != api.OK {
		t.Fatal(fault)
	}
	props := func(sub int) api.Rule {
		return api.Rule{Kind: api.RuProps, Names: []string{"children"}, Subs: []int{sub}}
	}
	p, errno := ir.Build(table, edges, 0)
	if errno != api.OK {
		t.Fatal(errno)
	}
	closed(t, p, []int{0, 1, 2}, form(0, props(1)), form(0, asking(api.RuItems, 2)), form(0, ref(0)))
	p, errno = ir.Build(table, edges, 3)
	if errno != api.OK {
		t.Fatal(errno)
	}
	closed(t, p, []int{3, 0, 4, 1, 2},
		form(0, ref(1), asking(api.RuLeftProps, 2)), form(0, props(3)), api.Form{Never: true}, form(0, asking(api.RuItems, 4)), form(0, ref(0)))
}
