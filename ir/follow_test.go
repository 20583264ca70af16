package ir

import (
	"slices"
	"strings"
	"testing"

	"caliper/api"
	"caliper/bundle"
	"caliper/loops"
	"caliper/refs"
	"caliper/shape"
)

// schema is a schema as a text, of many keys in any order.
func (c *chance) schema(levels int, resource bool) string {
	if !resource && (levels == 0 || c.below(5) == 0) {
		return c.of("true", "false", "{}", `{"type":"null"}`)
	}
	var members []string
	put := func(key, v string) { members = append(members, `"`+key+`":`+v) }
	if resource {
		put("$dynamicAnchor", `"d"`)
	} else if c.below(10) == 0 {
		put("$id", `"`+c.of("i", "j", "k", "l", "m")+`"`)
		put("$dynamicAnchor", `"d"`)
	}
	for _, word := range []string{"$ref", "$dynamicRef"} {
		if c.below(5) == 0 {
			put(word, c.of(`"#d"`, `"#d"`, `"#"`, `"a#"`, `"b#d"`, `"a#/$defs/a"`, `"a#/$defs/a"`, `"b#/$defs/a"`))
		}
	}
	if resource {
		put("$defs", `{"a":`+c.schema(levels-1, false)+`}`)
	}
	c.inner(put, func() string { return c.schema(levels-1, false) })
	for _, s := range samples()[:18] {
		if c.below(30) == 0 {
			put(s.key, s.holds)
		}
	}
	shuffle(c, members)
	return object(members)
}

// inner puts members that hold schemas.
func (c *chance) inner(put func(string, string), schema func() string) {
	for _, key := range strings.Fields("additionalProperties contains else if items not propertyNames then unevaluatedItems unevaluatedProperties") {
		if c.below(12) == 0 {
			put(key, schema())
		}
	}
	for _, key := range strings.Fields("allOf anyOf oneOf prefixItems") {
		if c.below(10) == 0 {
			put(key, "["+schema()+strings.Repeat(","+schema(), c.below(3))+"]")
		}
	}
	for _, key := range strings.Fields("dependentSchemas patternProperties properties") {
		if c.below(10) == 0 {
			put(key, c.of(`{}`, `{"a":`+schema()+`}`, `{"b":`+schema()+`,"a":`+schema()+`}`))
		}
	}
	if c.below(10) == 0 {
		put("minContains", c.of("0", "2"))
	}
}

// eachTable hands on tables of chance, whose references all lead somewhere, and their edges.
func eachTable(c *chance, many int, visit func(api.Table, []api.Edge)) {
	for range many {
		levels := 1 + c.below(4)
		table, fault := bundle.Read([]api.Doc{
			{Uri: "x:/a", Data: []byte(c.schema(levels, true))},
			{Uri: "x:/b", Data: []byte(c.schema(levels, true))},
		})
		if fault.Code != api.OK {
			continue
		}
		if edges, fault := refs.Edges(table); fault.Code == api.OK {
			visit(table, edges)
		}
	}
}

// words are the keys that the Subs of a kind's rules come from: of RuRef it is one of two.
func words(r api.Rule, sub int, v api.Value, refs int) string {
	switch {
	case r.Kind == api.RuIf:
		return []string{"if", "then", "else"}[sub]
	case r.Kind == api.RuRef && (refs > 0 || !slices.Contains(v.Keys, "$ref")):
		return "$dynamicRef"
	}
	return map[api.RuleKind]string{
		api.RuRef: "$ref", api.RuAll: "allOf", api.RuAny: "anyOf", api.RuOne: "oneOf", api.RuNot: "not", api.RuWhen: "dependentSchemas", api.RuPrefix: "prefixItems", api.RuItems: "items",
		api.RuContains: "contains", api.RuProps: "properties", api.RuMatching: "patternProperties", api.RuRest: "additionalProperties",
		api.RuNames: "propertyNames", api.RuLeftItems: "unevaluatedItems", api.RuLeftProps: "unevaluatedProperties",
	}[r.Kind]
}

// model is what Build should answer, by the chapter's words: each Sub looks for its edge among all of them.
func model(table api.Table, edges []api.Edge, root int) (api.Prog, api.Errno) {
	p := api.Prog{Root: root}
	had := make([]bool, len(edges))
	for n, s := range table.Schemas {
		form := Form(s.V)
		form.Resource = s.Resource
		refs := 0
		for i := range form.Rules {
			r := &form.Rules[i]
			kind := r.Kind
			for sub := range r.Subs {
				if r.Subs[sub] == -1 {
					continue
				}
				word := words(*r, sub, s.V, refs)
				at := slices.IndexFunc(edges, func(e api.Edge) bool { return e.From == n && e.Word == word })
				for at >= 0 && at < len(edges) && (had[at] || edges[at].From != n || edges[at].Word != word) {
					at++
				}
				if at < 0 || at == len(edges) {
					return api.Prog{}, api.ErrArg
				}
				had[at] = true
				r.Subs[sub] = edges[at].To
				if word == "$dynamicRef" && edges[at].Dynamic != "" {
					r.Kind, r.Names = api.RuDynamic, []string{edges[at].Dynamic}
				}
			}
			if kind == api.RuRef {
				refs++
			}
		}
		p.Forms = append(p.Forms, form)
	}
	for _, a := range table.Anchors {
		if a.Dynamic {
			p.Dyns = append(p.Dyns, api.Dyn{Name: a.Name, Resource: a.Resource, Form: a.Schema})
		}
	}
	return p, api.OK
}

// tamper makes other edges of a table's: some are missing, twice, or elsewhere.
func tamper(c *chance, edges []api.Edge) []api.Edge {
	edges = slices.Clone(edges)
	for range c.below(4) {
		if len(edges) == 0 {
			break
		}
		i, j := c.below(len(edges)), c.below(len(edges))
		switch c.below(6) {
		case 0:
			edges = slices.Delete(edges, i, i+1)
		case 1:
			edges[i], edges[j] = edges[j], edges[i]
		case 2:
			edges = slices.Insert(edges, j, edges[i])
		case 3:
			edges[i].Word = edges[j].Word
		case 4:
			edges[i].To, edges[i].Dynamic = edges[j].To, c.of("", "d", "x")
		case 5:
			shuffle(c, edges)
		}
	}
	return edges
}

// P16.2: tables of chance, with their edges and with others, are built as the chapter's words say.
func TestAsTheModel(t *testing.T) {
	c := chance(20)
	good, bad, dynamic := 0, 0, 0
	eachTable(&c, 1500, func(table api.Table, edges []api.Edge) {
		for i, tried := range [][]api.Edge{edges, tamper(&c, edges), tamper(&c, edges)} {
			root := c.below(len(table.Schemas))
			want, wrong := model(table, tried, root)
			got, errno := Build(table, tried, root)
			if errno != wrong || told(got) != told(want) {
				t.Fatalf("error %d,\n%s\nnot %d,\n%s", errno, told(got), wrong, told(want))
			}
			if i == 0 && errno != api.OK {
				t.Fatalf("error %d of a table's own edges", errno)
			}
			if errno != api.OK {
				bad++
			} else {
				good++
			}
			for _, f := range got.Forms {
				if slices.ContainsFunc(f.Rules, func(r api.Rule) bool { return r.Kind == api.RuDynamic }) {
					dynamic++
				}
			}
		}
	})
	if good < 1000 || bad < 300 || dynamic < 500 {
		t.Error("too few are of use:", good, bad, dynamic)
	}
}

// counting are the edges but those of branches that no condition stands beside: no rule asks by them.
func counting(table api.Table, edges []api.Edge) []api.Edge {
	return slices.DeleteFunc(slices.Clone(edges), func(e api.Edge) bool {
		return (e.Word == "then" || e.Word == "else") && !slices.Contains(table.Schemas[e.From].V.Keys, "if")
	})
}

// P16.5: what Build answers may be, and it has a cycle of Same, if and only if the table's edges have.
func TestWhatFollows(t *testing.T) {
	c := chance(21)
	cycles, free := 0, 0
	eachTable(&c, 2500, func(table api.Table, edges []api.Edge) {
		p, errno := Build(table, edges, c.below(len(table.Schemas)))
		if errno != api.OK {
			t.Fatal(errno)
		}
		if errno = Check(p); errno != api.OK {
			t.Fatalf("error %d:\n%s", errno, told(p))
		}
		_, looped := loops.Cycle(len(p.Forms), Same(p))
		_, want := loops.Cycle(len(table.Schemas), counting(table, edges))
		if looped != want {
			t.Fatalf("a cycle: %v, not %v:\n%s", looped, want, told(p))
		}
		if looped {
			cycles++
		} else {
			free++
		}
	})
	if cycles < 300 || free < 300 {
		t.Error("too few are of use:", cycles, free)
	}
}

// P16.4, P16.5: the edges of Same are the table's that are Same, as sets of pairs.
func TestSameAsTheEdges(t *testing.T) {
	pairsOf := func(edges []api.Edge) []api.Edge {
		var all []api.Edge
		for _, e := range edges {
			if e.Same && !slices.Contains(all, api.Edge{From: e.From, To: e.To}) {
				all = append(all, api.Edge{From: e.From, To: e.To})
			}
		}
		slices.SortFunc(all, func(a, b api.Edge) int { return (a.From-b.From)*1000 + a.To - b.To })
		return all
	}
	c := chance(22)
	eachTable(&c, 800, func(table api.Table, edges []api.Edge) {
		p, _ := Build(table, edges, 0)
		same := Same(p)
		for _, e := range same {
			if e != (api.Edge{From: e.From, To: e.To, Same: true}) {
				t.Fatal(e)
			}
		}
		if !slices.Equal(pairsOf(same), pairsOf(counting(table, edges))) {
			t.Fatalf("%v\nnot\n%v", same, edges)
		}
	})
}

// cyclic asks whether a document's program, and its edges, have a cycle of the same instance.
func cyclic(t *testing.T, want bool, documents ...string) {
	t.Helper()
	table, edges := tabled(t, documents...)
	p, errno := Build(table, edges, 0)
	if errno != api.OK || Check(p) != api.OK {
		t.Fatal(errno, Check(p))
	}
	_, inEdges := loops.Cycle(len(table.Schemas), edges)
	if cycle, ok := loops.Cycle(len(p.Forms), Same(p)); ok != want || inEdges != want {
		t.Errorf("%v: %v, %v, %v", documents, cycle, ok, inEdges)
	}
}

// P16.5: documents with and without a cycle of the same instance.
func TestCycles(t *testing.T) {
	cyclic(t, false, `true`)
	cyclic(t, false, `{}`)
	cyclic(t, true, `{"$ref":"#"}`)
	cyclic(t, true, `{"$dynamicRef":"#"}`)
	cyclic(t, true, `{"$dynamicRef":"#d","$dynamicAnchor":"d"}`)
	for _, inner := range []string{`"not":%`, `"allOf":[%]`, `"anyOf":[true,%]`, `"oneOf":[%,false]`, `"if":%`, `"if":true,"then":%`, `"else":%,"if":{}`, `"dependentSchemas":{"a":true,"b":%}`} {
		cyclic(t, true, `{`+strings.ReplaceAll(inner, "%", `{"$ref":"#"}`)+`}`)
		cyclic(t, false, `{`+strings.ReplaceAll(inner, "%", `{"properties":{"a":{"$ref":"#"}}}`)+`}`)
	}
	for _, key := range strings.Fields("items contains additionalProperties propertyNames unevaluatedItems unevaluatedProperties") {
		if shape.Same(key) {
			t.Error(key)
		}
		cyclic(t, false, `{"`+key+`":{"$ref":"#"}}`)
	}
	cyclic(t, false, `{"prefixItems":[{"$ref":"#"}],"properties":{"a":{"$dynamicRef":"#"}},"patternProperties":{"a":{"$ref":"#"}},"$defs":{"a":{"$ref":"#"}},"contentSchema":{"$ref":"#"}}`)
	cyclic(t, true, `{"$ref":"b"}`, `{"allOf":[{"$ref":"c"}]}`, `{"not":{"$ref":"a"}}`)
	cyclic(t, false, `{"$ref":"b"}`, `{"allOf":[{"$ref":"c"}]}`, `{"items":{"$ref":"a"}}`)
	cyclic(t, true, `{"$ref":"b","$dynamicAnchor":"d"}`, `{"$dynamicAnchor":"d","not":{"$dynamicRef":"#d"}}`)
	cyclic(t, true, `{"$ref":"b","$dynamicAnchor":"d"}`, `{"not":{"$dynamicRef":"#d","$id":"c","$defs":{"x":{"$dynamicAnchor":"d"}}}}`)
	cyclic(t, false, `{"$ref":"b","$anchor":"d"}`, `{"not":{"$dynamicRef":"#d","$id":"c","$defs":{"x":{"$dynamicAnchor":"d"}}}}`)
	cyclic(t, false, `{"$dynamicRef":"#d","$defs":{"a":{"$dynamicAnchor":"d"},"b":{"$id":"b","$dynamicAnchor":"d","items":{"$ref":"x:/a"}}}}`)
}

// P16.1, P16.5: a branch without a condition is asked of nothing, so a cycle through it is one of the table's edges alone: P16.1 has no rule for it.
func TestCyclesThroughBranchesAlone(t *testing.T) {
	for _, key := range []string{"then", "else"} {
		table, edges := tabled(t, `{"`+key+`":{"$ref":"#"}}`)
		p, errno := Build(table, edges, 0)
		if errno != api.OK || Check(p) != api.OK {
			t.Fatal(errno)
		}
		sames(t, p, 1, 0)
		if _, ok := loops.Cycle(len(table.Schemas), edges); !ok {
			t.Error(edges)
		}
	}
}
