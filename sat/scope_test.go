package sat

import (
	"testing"

	"caliper/api"
)

// dynamic is a RuDynamic.
func dynamic(name string, sub int) api.Rule {
	return api.Rule{Kind: api.RuDynamic, Names: []string{name}, Subs: []int{sub}}
}

// within is a form in a resource.
func within(resource int, rules ...api.Rule) api.Form {
	return api.Form{Resource: resource, Rules: rules}
}

// dyn is a dynamic anchor.
func dyn(name string, resource, form int) api.Dyn {
	return api.Dyn{Name: name, Resource: resource, Form: form}
}

// P19.2: RuDynamic asks the form that the scope has for the name, or the Sub, if there is none.
func TestDynamic(t *testing.T) {
	forms := []api.Form{within(0, asks(api.RuRef, 1)), within(1, dynamic("d", 2)), within(2, typed("string")), within(0, typed("number")), within(1, typed("null"))}
	of := func(dyns ...api.Dyn) api.Prog { return api.Prog{Forms: forms, Dyns: dyns} }
	for _, sample := range []struct {
		p    api.Prog
		kept string
	}{
		{of(), `"a"`},
		{of(dyn("d", 2, 3)), `"a"`},                                   // only of a resource that was entered
		{of(dyn("d", 1, 4)), "null"},                                  // of the one that asks
		{of(dyn("d", 0, 3)), "1"},                                     // of Root's
		{of(dyn("d", 0, 3), dyn("d", 1, 4)), "1"},                     // the outermost one
		{of(dyn("d", 1, 4), dyn("d", 0, 3), dyn("d", 2, 2)), "1"},     // in whatever order they stand
		{of(dyn("e", 0, 3), dyn("d", 1, 4)), "null"},                  // by name
		{of(dyn("e", 0, 3)), `"a"`},                                   // of a name that is none of the names
		{of(dyn("", 0, 3), dyn("D", 0, 3), dyn("d ", 1, 3)), `"a"`},   // ..
		{of(dyn("d", 3, 3), dyn("d", 4, 3), dyn("e", 0, 3)), `"a"`},   // of a Resource of no form that is asked
		{of(dyn("d", 0, 2), dyn("d", 1, 3)), `"a"`},                   // bound to the Sub itself
		{of(dyn("f", 0, 4), dyn("d", 1, 4), dyn("f", 1, 3)), "null"},  // beside another name
		{of(dyn("f", 1, 4), dyn("d", 0, 3), dyn("g", 1, 3)), "1"},     // ..
		{of(dyn("d", 1, 2), dyn("d", 4, 3), dyn("d", 3, 3)), `"a"`},   // ..
		{of(dyn("d", 1, 3), dyn("d", 2, 4), dyn("dd", 0, 2)), "10e1"}, // ..
	} {
		for _, v := range []string{`"a"`, "1", "null", "10e1", "[]"} {
			if v == sample.kept || sample.kept == "1" && v == "10e1" || sample.kept == "10e1" && v == "1" {
				takes(t, sample.p, v)
			} else {
				leaves(t, sample.p, v)
			}
		}
	}
}

// P19.1, P19.2: Root is asked in the scope with its own Resource entered, which need not be its own number.
func TestRootScope(t *testing.T) {
	p := api.Prog{Forms: []api.Form{within(2, dynamic("d", 1)), within(0, typed("string")), within(2, typed("number"))}, Dyns: []api.Dyn{dyn("d", 2, 2)}}
	takes(t, p, "1")
	leaves(t, p, `"a"`)
	p.Dyns[0].Resource = 0
	takes(t, p, `"a"`)
	leaves(t, p, "1")
	p.Root = 1
	takes(t, p, `"a"`)
}

// P19.2: a resource that is entered on the way binds for what is asked from there on, and nowhere else.
func TestEnteredOnTheWay(t *testing.T) {
	// 0 asks 1 (resource 1) and 2 (resource 2), each of which asks 3, whose dynamic reference they bind unlike.
	p := api.Prog{
		Forms: []api.Form{
			within(0, asks(api.RuPrefix, 1, 2, 3)), within(1, asks(api.RuRef, 3)), within(2, asks(api.RuRef, 3)), within(0, dynamic("d", 6)),
			within(1, typed("number")), within(2, typed("string")), within(0, typed("null")),
		},
		Dyns: []api.Dyn{dyn("d", 1, 4), dyn("d", 2, 5)},
	}
	takes(t, p, `[1,"a",null]`, 0, 1, 2)
	takes(t, p, `[1,"a"]`, 0, 1)
	leaves(t, p, `["a"]`, "[1,1]", "[null]", "[1,null]", `[1,"a",1]`, `[1,"a","a"]`)
	// The same form of the same value, in scopes that differ.
	p.Forms[0] = within(0, asks(api.RuAny, 1, 2))
	takes(t, p, "1")
	takes(t, p, `"a"`)
	leaves(t, p, "null")
	p.Forms[0] = within(0, asks(api.RuAll, 1, 2))
	leaves(t, p, "1", `"a"`, "null")
	p.Forms[0] = within(0, asks(api.RuOne, 1, 2, 3))
	for _, v := range []string{"1", `"a"`, "null"} {
		takes(t, p, v)
	}
	leaves(t, p, "true")
	// What the outer one binds stays also where the inner one has the name, too.
	p.Forms[1] = within(1, asks(api.RuRef, 2))
	p.Forms[0] = within(0, asks(api.RuRef, 1))
	takes(t, p, "1")
	leaves(t, p, `"a"`, "null")
}

// P19.2: a form that a scope bound is asked with its own Resource entered, also of elements, keys and members.
func TestBoundFormsEnter(t *testing.T) {
	p := api.Prog{
		Forms: []api.Form{
			within(0, dynamic("d", 0)), within(1, dynamic("e", 3)), within(1, typed("number")), within(0, typed("string")),
		},
		Dyns: []api.Dyn{dyn("d", 0, 1), dyn("e", 1, 2)},
	}
	p.Forms[0].Rules[0].Subs[0] = 3
	takes(t, p, "1")
	leaves(t, p, `"a"`)
	for _, r := range []api.Rule{
		asks(api.RuItems, 1), asks(api.RuPrefix, 1), {Kind: api.RuContains, N: 1, M: -1, Subs: []int{1}}, asks(api.RuLeftItems, 1), asks(api.RuLeftProps, 1),
		{Kind: api.RuProps, Names: []string{"a"}, Subs: []int{1}}, {Kind: api.RuMatching, Pats: []string{"a"}, Subs: []int{1}}, asks(api.RuRest, 1),
	} {
		p.Forms[0].Rules = []api.Rule{typed("array"), r}
		if r.Kind >= api.RuProps && r.Kind != api.RuLeftItems {
			p.Forms[0].Rules[0] = typed("object")
			takes(t, p, `{"a":1}`, 0)
			leaves(t, p, `{"a":"a"}`)
			continue
		}
		takes(t, p, "[1]", 0)
		leaves(t, p, `["a"]`)
	}
	p.Forms[0].Rules = []api.Rule{asks(api.RuNames, 1)}
	leaves(t, p, `{"a":1}`)
	p.Forms[2] = p.Forms[3]
	takes(t, p, `{"a":1}`)
}

// P19.2: marks come of the form bound.
func TestDynamicMarks(t *testing.T) {
	p := around(dynamic("d", no), asks(api.RuLeftItems, text))
	p.Dyns = []api.Dyn{dyn("d", tried, first)}
	takes(t, p, `[1,"a"]`, 0, 1)
	leaves(t, p, "[1,2]")
	p.Dyns = nil
	leaves(t, p, `[1,"a"]`)
}

// P19.2: a tree of a schema that another one makes strict, as the specification of dynamic references has it.
func TestStrictTree(t *testing.T) {
	tree := api.Doc{Uri: "x:/tree", Data: []byte(`{"$dynamicAnchor":"node","type":"object","properties":{"data":true,"children":{"type":"array","items":{"$dynamicRef":"#node"}}}}`)}
	strict := api.Doc{Uri: "x:/strict", Data: []byte(`{"$dynamicAnchor":"node","$ref":"tree","unevaluatedProperties":false}`)}
	loose, tight := bundled(t, tree, strict), bundled(t, strict, tree)
	takes(t, tight, `{"children":[{"data":1}]}`, 0)
	takes(t, loose, `{"children":[{"daat":1}]}`, 0)
	leaves(t, tight, `{"children":[{"daat":1}]}`, `{"daat":1}`, `{"children":[{"children":[{"data":2,"x":3}]}]}`)
	takes(t, loose, `{"daat":1,"data":2}`, 1)
	leaves(t, loose, `{"children":[{"children":[1]}]}`)
}
