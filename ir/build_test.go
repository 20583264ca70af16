package ir

import (
	"fmt"
	"math"
	"reflect"
	"slices"
	"strings"
	"testing"

	"caliper/api"
	"caliper/bundle"
	"caliper/refs"
)

// tabled are the table and the edges of documents, whose URIs are x:/a, x:/b and so on.
func tabled(t *testing.T, documents ...string) (api.Table, []api.Edge) {
	t.Helper()
	var docs []api.Doc
	for i, data := range documents {
		docs = append(docs, api.Doc{Uri: "x:/" + string(rune('a'+i)), Data: []byte(data)})
	}
	table, fault := bundle.Read(docs)
	if fault.Code != api.OK {
		t.Fatalf("fault %d at %d %q", fault.Code, fault.At.Doc, fault.At.Pointer)
	}
	edges, fault := refs.Edges(table)
	if fault.Code != api.OK {
		t.Fatalf("fault %d at %d %q", fault.Code, fault.At.Doc, fault.At.Pointer)
	}
	return table, edges
}

// told is a program as a text.
func told(p api.Prog) string {
	var out strings.Builder
	for n, f := range p.Forms {
		fmt.Fprintf(&out, "form %d: %s\n", n, shown(f))
	}
	for _, d := range p.Dyns {
		fmt.Fprintf(&out, "dyn %q in %d: %d\n", d.Name, d.Resource, d.Form)
	}
	fmt.Fprintf(&out, "root %d\n", p.Root)
	return out.String()
}

// built asks for what Build answers.
func built(t *testing.T, table api.Table, edges []api.Edge, root int, want api.Prog) {
	t.Helper()
	got, errno := Build(table, edges, root)
	if errno != api.OK || told(got) != told(want) {
		t.Errorf("error %d,\n%s\nnot\n%s", errno, told(got), told(want))
	}
}

// refused asks for ErrArg, beside which the program is zero.
func refused(t *testing.T, table api.Table, edges []api.Edge, root int) {
	t.Helper()
	if got, errno := Build(table, edges, root); errno != api.ErrArg || !reflect.DeepEqual(got, api.Prog{}) {
		t.Errorf("error %d,\n%s", errno, told(got))
	}
}

// subs are all Subs of a schema's rules, in order.
func subs(t *testing.T, table api.Table, edges []api.Edge, n int) []int {
	t.Helper()
	p, errno := Build(table, edges, 0)
	if errno != api.OK {
		t.Fatal(errno)
	}
	var all []int
	for _, r := range p.Forms[n].Rules {
		all = append(all, r.Subs...)
	}
	return all
}

// asked asks for all Subs of a schema's rules.
func asked(t *testing.T, table api.Table, edges []api.Edge, n int, want ...int) {
	t.Helper()
	if got := subs(t, table, edges, n); !slices.Equal(got, want) {
		t.Errorf("Subs of %d: %v, not %v", n, got, want)
	}
}

// P16.2: documents without references; Forms stand as the Schemas do, Resources are theirs.
func TestBuild(t *testing.T) {
	table, edges := tabled(t, `{"items":{"$id":"c","not":false},"type":"array","prefixItems":[true]}`, `false`)
	forms := []api.Form{
		{Rules: []api.Rule{{Kind: api.RuType, Names: []string{"array"}}, {Kind: api.RuPrefix, Subs: []int{3}}, {Kind: api.RuItems, N: 1, Subs: []int{1}}}},
		{Resource: 1, Rules: []api.Rule{{Kind: api.RuNot, Subs: []int{2}}}},
		{Never: true, Resource: 1},
		{},
		{Never: true, Resource: 4},
	}
	for root := range forms {
		built(t, table, edges, root, api.Prog{Forms: forms, Root: root})
	}
}

// P16.2: a root that is no schema's number.
func TestRoots(t *testing.T) {
	table, edges := tabled(t, `{"not":{}}`)
	for _, root := range []int{-1, -2, 2, 3, math.MinInt, math.MaxInt} {
		refused(t, table, edges, root)
	}
	for _, root := range []int{-1, 0, 1} {
		refused(t, api.Table{}, nil, root)
		refused(t, api.Table{Anchors: []api.Anchor{{Name: "a", Dynamic: true}}}, edges, root)
	}
}

// places are the numbers of the schemas at these pointers of the first document.
func places(t *testing.T, table api.Table, pointers string) []int {
	t.Helper()
	var all []int
	for _, at := range strings.Fields(pointers) {
		n, errno := bundle.At(table, api.Place{Pointer: at})
		if errno != api.OK {
			t.Fatal(at)
		}
		all = append(all, n)
	}
	return all
}

// every is a schema with all keys that hold schemas, and with both references.
const every = `{
	"unevaluatedProperties":{},"unevaluatedItems":{},"propertyNames":{},"additionalProperties":{},
	"patternProperties":{"b":{},"a":{}},"properties":{"d":{},"c":{}},"contains":{},"items":{},"prefixItems":[{},{}],
	"dependentSchemas":{"f":{},"e":{}},"else":{},"then":{},"if":{},"not":{},"oneOf":[{}],"anyOf":[{},{}],"allOf":[{},{},{}],
	"$dynamicRef":"#/not","$ref":"#/if","$defs":{"g":{}},"contentSchema":{}}`

// everySub are the pointers of what the rules of every ask, in order.
const everySub = "/if /not /allOf/0 /allOf/1 /allOf/2 /anyOf/0 /anyOf/1 /oneOf/0 /not /if /then /else /dependentSchemas/f /dependentSchemas/e " +
	"/prefixItems/0 /prefixItems/1 /items /contains /properties/d /properties/c /patternProperties/b /patternProperties/a " +
	"/additionalProperties /propertyNames /unevaluatedItems /unevaluatedProperties"

// P16.2: each key's Subs are what its edges lead to, in the order of the key's schemas, whatever that of the keys.
func TestSubs(t *testing.T) {
	table, edges := tabled(t, every)
	asked(t, table, edges, 0, places(t, table, everySub)...)
	for n := 1; n < len(table.Schemas); n++ {
		asked(t, table, edges, n)
	}
}

// P16.2: a condition's Subs that are not there stay -1; branches without a condition are not asked for, nor are their edges.
func TestBranches(t *testing.T) {
	table, edges := tabled(t, `{"if":{}}`)
	asked(t, table, edges, 0, 1, -1, -1)
	table, edges = tabled(t, `{"else":{},"if":{}}`)
	asked(t, table, edges, 0, 2, -1, 1)
	table, edges = tabled(t, `{"then":{},"if":{}}`)
	asked(t, table, edges, 0, 2, 1, -1)
	table, edges = tabled(t, `{"else":{},"then":{}}`)
	asked(t, table, edges, 0)
	asked(t, table, nil, 0)
}

// P16.2: edges that are missing: each that a Sub needs is missed, each other one is not.
func TestMissingEdges(t *testing.T) {
	table, edges := tabled(t, every)
	want, _ := Build(table, edges, 0)
	for i, e := range edges {
		left := slices.Delete(slices.Clone(edges), i, i+1)
		if e.Word == "$defs" || e.Word == "contentSchema" {
			built(t, table, left, 0, want)
		} else {
			refused(t, table, left, 0)
		}
	}
	refused(t, table, nil, 0)
	for n := range table.Schemas {
		refused(t, table, edges[:len(edges)-3], n)
	}
	built(t, api.Table{Schemas: table.Schemas[1:2]}, nil, 0, api.Prog{Forms: make([]api.Form, 1)})
}

// P16.2: edges with another From or Word are not a Sub's; what else they have does not count.
func TestOtherEdges(t *testing.T) {
	table, edges := tabled(t, every)
	want, _ := Build(table, edges, 0)
	for i, e := range edges {
		changed := slices.Clone(edges)
		for _, word := range []string{"", "$defs", "dependentRequired", strings.ToUpper(e.Word), e.Word + " ", "RuAll"} {
			changed[i].Word = word
			if e.Word == "$defs" || e.Word == "contentSchema" {
				built(t, table, changed, 0, want)
			} else if e.Word != word {
				refused(t, table, changed, 0)
			}
		}
		for _, from := range []int{-1, 1, len(table.Schemas), math.MaxInt, math.MinInt} {
			changed[i] = e
			changed[i].From = from
			if e.Word != "$defs" && e.Word != "contentSchema" {
				refused(t, table, changed, 0)
			}
		}
		changed[i] = e
		changed[i].Same = !e.Same
		built(t, table, changed, 0, want)
		if e.Word != "$dynamicRef" {
			changed[i].Dynamic = "x"
			built(t, table, changed, 0, want)
		}
	}
}

// P16.2: edges in another order: those of one schema and one key are taken as they come, so that others may stand between them.
func TestEdgesInOtherOrders(t *testing.T) {
	table, edges := tabled(t, every)
	want, _ := Build(table, edges, 0)
	c := chance(18)
	for range 200 {
		mixed := slices.Clone(edges)
		shuffle(&c, mixed)
		rows := map[string][]api.Edge{}
		for _, e := range edges {
			rows[e.Word] = append(rows[e.Word], e)
		}
		for i, e := range mixed {
			mixed[i], rows[e.Word] = rows[e.Word][0], rows[e.Word][1:]
		}
		built(t, table, mixed, 0, want)
	}
	table, edges = tabled(t, `{"allOf":[{},{},{}],"properties":{"a":{},"b":{}}}`)
	slices.Reverse(edges)
	asked(t, table, edges, 0, 3, 2, 1, 5, 4)
}

// P16.2: of several edges with one From and one Word, Subs take the first ones.
func TestEdgesTwice(t *testing.T) {
	table, edges := tabled(t, `{"not":{},"allOf":[{},{}],"dependentSchemas":{"a":{},"b":{}}}`)
	not, all, first, second := edges[0], edges[1], edges[3], edges[4]
	not.To, all.To = 5, 4
	asked(t, table, append(slices.Clone(edges), not, all), 0, 2, 3, 1, 4, 5)
	asked(t, table, append([]api.Edge{not, all}, edges...), 0, 4, 2, 5, 4, 5)
	asked(t, table, slices.Insert(slices.Clone(edges), 2, all, not), 0, 2, 4, 1, 4, 5)
	asked(t, table, []api.Edge{not, all, all, second, second, first}, 0, 4, 4, 5, 5, 5)
	refused(t, table, []api.Edge{not, not, all, first, second}, 0)
	refused(t, table, []api.Edge{not, all, all, all, second}, 0)
}

// P16.2: Subs are what edges lead to, also where that is no schema's number: of such edges, which are no table's, nothing else is said.
func TestFarEdges(t *testing.T) {
	table, _ := tabled(t, `{"not":{}}`)
	for _, to := range []int{-1, -2, 2, math.MaxInt, math.MinInt} {
		p, errno := Build(table, []api.Edge{{From: 0, To: to, Word: "not"}}, 0)
		if errno != api.OK || p.Forms[0].Rules[0].Subs[0] != to || Check(p) != api.ErrIR {
			t.Error(to, errno, p)
		}
	}
}

// P16.2: each schema takes its own edges, not those of the schema around it.
func TestNests(t *testing.T) {
	table, edges := tabled(t, `{"not":{"not":{"not":{"not":true}}},"allOf":[{"allOf":[{"not":{}},{}]},{"not":{}}]}`)
	for n, want := range [][]int{{5, 9, 1}, {2}, {3}, {4}, {}, {6, 8}, {7}, {}, {}, {10}, {}} {
		asked(t, table, edges, n, want...)
	}
	var cut []api.Edge
	for _, e := range edges {
		if e.From != 3 {
			cut = append(cut, e)
		}
	}
	refused(t, table, cut, 0)
}

// P16.2: a $dynamicRef is a RuDynamic, if its edge has a name; a $ref is none, wherever it leads.
func TestDynamics(t *testing.T) {
	table, edges := tabled(t, `{"$ref":"#d","$dynamicRef":"#d","$defs":{"a":{"$dynamicAnchor":"d"},"b":{"$anchor":"e"},"c":{"$dynamicRef":"#e"},"f":{"$dynamicRef":"#/$defs/a"},"g":{"$ref":"#d"}}}`)
	built(t, table, edges, 0, api.Prog{
		Forms: []api.Form{
			{Rules: []api.Rule{{Kind: api.RuRef, Subs: []int{1}}, {Kind: api.RuDynamic, Names: []string{"d"}, Subs: []int{1}}}},
			{},
			{},
			{Rules: []api.Rule{{Kind: api.RuRef, Subs: []int{2}}}},
			{Rules: []api.Rule{{Kind: api.RuRef, Subs: []int{1}}}},
			{Rules: []api.Rule{{Kind: api.RuRef, Subs: []int{1}}}},
		},
		Dyns: []api.Dyn{{Name: "d", Resource: 0, Form: 1}},
	})
}

// P16.2: Dyns are the Dynamic anchors of all resources, in order; a RuDynamic's Sub is the first edge's.
func TestDyns(t *testing.T) {
	table, edges := tabled(t,
		`{"$defs":{"a":{"$id":"i","$dynamicAnchor":"d","not":{"$dynamicAnchor":"e","$anchor":"f"}},"b":{"$id":"j","$dynamicAnchor":"d"}},"$anchor":"d"}`,
		`{"$dynamicRef":"i#d","$dynamicAnchor":"d","not":{"$dynamicRef":"a#d"},"items":{"$dynamicRef":"#d"}}`)
	want := api.Prog{
		Forms: []api.Form{
			{},
			{Resource: 1, Rules: []api.Rule{{Kind: api.RuNot, Subs: []int{2}}}},
			{Resource: 1},
			{Resource: 3},
			{Resource: 4, Rules: []api.Rule{{Kind: api.RuDynamic, Names: []string{"d"}, Subs: []int{1}}, {Kind: api.RuNot, Subs: []int{5}}, {Kind: api.RuItems, Subs: []int{6}}}},
			{Resource: 4, Rules: []api.Rule{{Kind: api.RuRef, Subs: []int{0}}}},
			{Resource: 4, Rules: []api.Rule{{Kind: api.RuDynamic, Names: []string{"d"}, Subs: []int{4}}}},
		},
		Dyns: []api.Dyn{{Name: "d", Resource: 1, Form: 1}, {Name: "e", Resource: 1, Form: 2}, {Name: "d", Resource: 3, Form: 3}, {Name: "d", Resource: 4, Form: 4}},
		Root: 4,
	}
	built(t, table, edges, 4, want)
}

// P16.2: edges by hand: the name is that of the edge that the Sub takes; an empty one is none.
func TestDynamicEdges(t *testing.T) {
	table, edges := tabled(t, `{"$ref":"#d","$dynamicRef":"#d","not":{"$dynamicAnchor":"d"}}`)
	dynamic := func(name string) []api.Edge {
		return append([]api.Edge{{From: 0, To: 0, Word: "$dynamicRef", Dynamic: name}, {From: 0, To: 1, Word: "$ref", Dynamic: "x"}}, edges...)
	}
	want := api.Prog{Forms: []api.Form{{Rules: []api.Rule{{Kind: api.RuRef, Subs: []int{1}}, {Kind: api.RuRef, Subs: []int{0}}, {Kind: api.RuNot, Subs: []int{1}}}}, {}}, Dyns: []api.Dyn{{Name: "d", Form: 1}}}
	built(t, table, dynamic(""), 0, want)
	want.Forms[0].Rules[1] = api.Rule{Kind: api.RuDynamic, Names: []string{"other"}, Subs: []int{0}}
	built(t, table, dynamic("other"), 0, want)
}

// P16.2: what is no schema has the zero Form, also in a table that no Read made.
func TestTablesByHand(t *testing.T) {
	for _, s := range []string{`1`, `null`, `[]`, `{"not":1}`, `{"type":"nil","not":{}}`, `{"allOf":{"a":{}}}`, `{"allOf":[]}`, `{"properties":[{}]}`, `{"$defs":1,"not":{}}`, `{"then":1,"if":{}}`, `{"prefixItems":[{},1],"items":true}`} {
		table := api.Table{Schemas: []api.Schema{{V: parsed(s), Resource: 7}}}
		built(t, table, nil, 0, api.Prog{Forms: []api.Form{{Resource: 7}}})
	}
	deep := api.Value{Kind: api.Array, List: make([]api.Value, 1)}
	deep.List[0] = deep
	for _, v := range []api.Value{deep, {Kind: 9}, {Kind: api.Object, Keys: []string{"not", "not"}, List: []api.Value{deep}}, {Kind: api.Object, Keys: []string{"not"}}, {Kind: api.Object, Keys: []string{"const"}, List: []api.Value{deep}}} {
		built(t, api.Table{Schemas: []api.Schema{{V: v}}}, nil, 0, api.Prog{Forms: make([]api.Form, 1)})
	}
}

// R3: a table and edges are read and not changed; a program is the caller's own.
func TestBuildMemory(t *testing.T) {
	table, edges := tabled(t, rich)
	kept, keptEdges := tabled(t, rich)
	first, errno := Build(table, edges, 0)
	if errno != api.OK {
		t.Fatal(errno)
	}
	text := told(first)
	for _, f := range first.Forms {
		spoil(f)
	}
	if !reflect.DeepEqual(table, kept) || !slices.Equal(edges, keptEdges) {
		t.Error("the table or its edges were changed")
	}
	second, _ := Build(table, edges, 0)
	if told(second) != text {
		t.Error("the same call answers something else")
	}
	for i := range table.Schemas {
		spoilValues(table.Schemas[i].V.List)
	}
	for i := range edges {
		edges[i] = api.Edge{}
	}
	for i := range table.Anchors {
		table.Anchors[i] = api.Anchor{}
	}
	if told(second) != text {
		t.Error("the program shares memory with what was handed in")
	}
	for n := range second.Forms {
		again, _ := Build(kept, keptEdges, 0)
		spoil(again.Forms[n])
		again.Forms[n] = second.Forms[n]
		if told(again) != text {
			t.Errorf("form %d shares lists with others", n)
		}
	}
}

// rich is a document with values, names, patterns and references.
const rich = `{"$dynamicAnchor":"d","const":{"a":[{"b":[]}]},"enum":[[1],{"a":[]}],"required":["a"],"dependentRequired":{"a":["b"]},
	"properties":{"a":{"$dynamicRef":"#d"},"b":{"const":[[]]}},"patternProperties":{"a":{},"b":{"enum":[[]]}},"additionalProperties":{"$ref":"#"},
	"if":true,"then":{},"allOf":[{},{}],"dependentSchemas":{"a":{},"b":{}},"type":["null","array"],"pattern":"a"}`

// THE BOUND, R1: nests of many levels, and schemas of much width, are built in a time that follows their size.
func TestWideAndDeep(t *testing.T) {
	const levels = 9000
	leaf := `{"enum":[` + strings.Repeat("1,", 200000) + `1],"required":["` + strings.Repeat(`x`, 1000) + `"]}`
	table, edges := tabled(t, strings.Repeat(`{"not":`, levels)+leaf+strings.Repeat(`}`, levels))
	p, errno := Build(table, edges, 0)
	if errno != api.OK || len(p.Forms) != levels+1 || len(p.Forms[levels].Rules[0].Vals) != 200001 {
		t.Fatal(errno, len(p.Forms))
	}
	for n := range levels {
		if r := p.Forms[n].Rules; len(r) != 1 || r[0].Kind != api.RuNot || r[0].Subs[0] != n+1 {
			t.Fatal(n, r)
		}
	}
	wide := `{"allOf":[` + strings.Repeat("{},", 8000) + `true],"properties":{`
	for n := range 8000 {
		wide += fmt.Sprintf(`"%d":true,`, n)
	}
	table, edges = tabled(t, wide+`"x":{}}}`)
	if got := subs(t, table, edges, 0); len(got) != 16002 || !slices.IsSorted(got) || got[0] != 1 {
		t.Error(len(got))
	}
	if errno := Check(p); errno != api.OK {
		t.Error(errno)
	}
}
