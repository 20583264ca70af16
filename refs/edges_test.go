package refs

import (
	"math"
	"reflect"
	"slices"
	"strconv"
	"strings"
	"testing"

	"caliper/api"
	"caliper/bundle"
)

// The keywords that hold schemas, row by row, as chapter 12 has them.
const (
	oneEach   = "additionalProperties contains contentSchema else if items not propertyNames then unevaluatedItems unevaluatedProperties"
	inRows    = "allOf anyOf oneOf prefixItems"
	byNames   = "$defs dependentSchemas patternProperties properties"
	sameWords = "$ref $dynamicRef allOf anyOf dependentSchemas else if not oneOf then"
)

// mark is = behind the words that ask of the same instance.
func mark(word string) string {
	if slices.Contains(strings.Fields(sameWords), word) {
		return word + " ="
	}
	return word
}

// P14.3: no schemas have no edges and no fault; neither have schemas that hold none.
func TestNoEdges(t *testing.T) {
	edged(t, api.Table{})
	edged(t, read(t))
	edged(t, read(t, doc("x:/a", "true"), doc("x:/b", "false"), doc("x:/c", "{}")))
	edged(t, read(t, doc("x:/a", `{"$id":"x:/b","$anchor":"a","$dynamicAnchor":"b","const":{"not":true,"$ref":"#"},"default":[{"$ref":"x"}],"enum":[{"$dynamicRef":"y"}],"$defs":{},"properties":{},"$Ref":"y","ref":"z","definitions":{"a":{"$ref":"z"}},"type":"null","required":["$ref"]}`)))
}

// P14.3: every keyword that holds schemas: its Word, whether it is Same, and all that it holds.
func TestEdgesOfKeywords(t *testing.T) {
	for _, key := range strings.Fields(oneEach) {
		edged(t, read(t, doc("x:/a", `{"`+key+`":{"`+key+`":true}}`)), "0 1 "+mark(key), "1 2 "+mark(key))
	}
	for _, key := range strings.Fields(inRows) {
		edged(t, read(t, doc("x:/a", `{"`+key+`":[{"`+key+`":[false]},{},true]}`)), "0 1 "+mark(key), "0 3 "+mark(key), "0 4 "+mark(key), "1 2 "+mark(key))
	}
	for _, key := range strings.Fields(byNames) {
		edged(t, read(t, doc("x:/a", `{"`+key+`":{"b":{"`+key+`":{"~":true}},"a/b":{},"":false,"not":true,"$ref":{}}}`)),
			"0 1 "+mark(key), "0 3 "+mark(key), "0 4 "+mark(key), "0 5 "+mark(key), "0 6 "+mark(key), "1 2 "+mark(key))
	}
}

// P14.3: members that are no keywords, but begin like one, take none of its schemas.
func TestBeginningsOfKeywords(t *testing.T) {
	edged(t, read(t, doc("x:/a", `{"":{},"i":{},"items":{},"all":[{}],"/allOf":[],"allOf/0":{},"allOf":[{},true],"p":1,"properties/a":{},"properties":{"a":{},"":{},"a/b":true},"propertiesa":{}}`)),
		"0 1 items", "0 2 allOf =", "0 3 allOf =", "0 4 properties", "0 5 properties", "0 6 properties")
}

// P14.3: schema by schema, and of each member by member, not by names.
func TestOrder(t *testing.T) {
	table := read(t,
		doc("x:/a", `{"unevaluatedItems":{},"title":"t","items":{"then":{"$ref":"#"},"if":true},"$ref":"x:/b","allOf":[{"not":true},false],"$dynamicRef":"#/if","if":{},"additionalProperties":true,"properties":{"z":{},"a":{}}}`),
		doc("x:/b", `{"$defs":{"b":{},"a":{"$ref":"x:/a"}},"$ref":"#/$defs/a"}`))
	edged(t, table,
		"0 1 unevaluatedItems", "0 2 items", "0 12 $ref =", "0 5 allOf =", "0 7 allOf =", "0 8 $dynamicRef =", "0 8 if =", "0 9 additionalProperties", "0 10 properties", "0 11 properties",
		"2 3 then =", "2 4 if =", "3 0 $ref =", "5 6 not =",
		"12 13 $defs", "12 14 $defs", "12 14 $ref =", "14 0 $ref =")
}

// P14.3: of $ref and $dynamicRef an edge each, in their members' places, beside all others; to itself, too, and as often as it is told.
func TestEdgesOfReferences(t *testing.T) {
	edged(t, read(t, doc("x:/a", `{"$ref":"#"}`)), "0 0 $ref =")
	edged(t, read(t, doc("x:/a", `{"$dynamicRef":""}`)), "0 0 $dynamicRef =")
	edged(t, read(t, doc("x:/a", `{"$ref":"b"}`), doc("x:/b", `{"$ref":"a"}`)), "0 1 $ref =", "1 0 $ref =")
	edged(t, read(t, doc("x:/a", `{"$ref":"#/not","not":{"$ref":"#/if"},"if":{"$ref":"#/not"}}`)), "0 1 $ref =", "0 1 not =", "0 2 if =", "1 2 $ref =", "2 1 $ref =")
	edged(t, read(t, doc("x:/a", `{"$ref":"#/not","$dynamicRef":"#/not","not":{}}`)), "0 1 $ref =", "0 1 $dynamicRef =", "0 1 not =")
	edged(t, read(t, doc("x:/a", `{"$dynamicRef":"#/not","not":{},"$ref":"#/not"}`)), "0 1 $dynamicRef =", "0 1 not =", "0 1 $ref =")
	edged(t, read(t, doc("x:/a", `{"properties":{"$ref":{"$ref":"#/properties/$dynamicRef"},"$dynamicRef":true}}`)), "0 1 properties", "0 2 properties", "1 2 $ref =")
}

// P14.3: a $dynamicRef that leads to a dynamic anchor has one more edge to each other one of its name, in the table's order, wherever its Target stands among them.
func TestEdgesOfDynamicAnchors(t *testing.T) {
	docs := func(reference string) []api.Doc {
		return []api.Doc{
			doc("x:/a", `{"$dynamicAnchor":"d","$defs":{"m":{"$id":"m","$dynamicAnchor":"d"},"n":{"$id":"n","$anchor":"d"},"o":{"$id":"o","$dynamicAnchor":"e"}}}`),
			doc("x:/b", `{"$dynamicRef":"`+reference+`","not":{"$dynamicAnchor":"d"}}`),
		}
	}
	rest := []string{"4 5 not ="}
	defs := []string{"0 1 $defs", "0 2 $defs", "0 3 $defs"}
	for reference, want := range map[string][]string{
		"a#d":        {"4 0 $dynamicRef = d", "4 1 $dynamicRef = d", "4 5 $dynamicRef = d"},
		"a#%64":      {"4 0 $dynamicRef = d", "4 1 $dynamicRef = d", "4 5 $dynamicRef = d"},
		"m#d":        {"4 1 $dynamicRef = d", "4 0 $dynamicRef = d", "4 5 $dynamicRef = d"},
		"#d":         {"4 5 $dynamicRef = d", "4 0 $dynamicRef = d", "4 1 $dynamicRef = d"},
		"o#e":        {"4 3 $dynamicRef = e"},
		"n#d":        {"4 2 $dynamicRef ="},
		"a":          {"4 0 $dynamicRef ="},
		"m#":         {"4 1 $dynamicRef ="},
		"a#/$defs/m": {"4 1 $dynamicRef ="},
		"#/not":      {"4 5 $dynamicRef ="},
	} {
		edged(t, read(t, docs(reference)...), slices.Concat(defs, want, rest)...)
	}
	table := read(t, doc("x:/a", `{"$ref":"#d","not":{"$dynamicAnchor":"d"},"if":{"$id":"b","$dynamicAnchor":"d"}}`))
	edged(t, table, "0 1 $ref =", "0 1 not =", "0 2 if =")
}

// P14.3: the first Target that is refused is told: by schemas first, then by members; nothing else is answered.
func TestFirstFault(t *testing.T) {
	faulty(t, read(t, doc("x:/a", `{"$ref":"#x"}`)), 0, "/$ref")
	faulty(t, read(t, doc("x:/a", `{"$dynamicRef":"#x"}`)), 0, "/$dynamicRef")
	faulty(t, read(t, doc("x:/a", `{"$ref":"#x","$dynamicRef":"#x"}`)), 0, "/$ref")
	faulty(t, read(t, doc("x:/a", `{"$dynamicRef":"#x","$ref":"#x"}`)), 0, "/$dynamicRef")
	faulty(t, read(t, doc("x:/a", `{"$dynamicRef":"#","$ref":"#x"}`)), 0, "/$ref")
	faulty(t, read(t, doc("x:/a", `{"$ref":"#","$dynamicRef":"#x"}`)), 0, "/$dynamicRef")
	faulty(t, read(t, doc("x:/a", `{"not":{"$ref":"#x"},"$ref":"#x"}`)), 0, "/$ref")
	faulty(t, read(t, doc("x:/a", `{"not":{"$ref":"#x"},"$ref":"#"}`)), 0, "/not/$ref")
	faulty(t, read(t, doc("x:/a", `{"z":1,"not":{"if":{"$dynamicRef":"#x"}},"allOf":[{"$ref":"#x"}]}`)), 0, "/not/if/$dynamicRef")
	faulty(t, read(t, doc("x:/a", `{"$defs":{"a/b~":{"$ref":"#x"}}}`)), 0, "/$defs/a~1b~0/$ref")
	faulty(t, read(t, doc("x:/a", `true`), doc("x:/b", `{"not":{"$ref":"a#/not"}}`), doc("x:/c", `{"$ref":"d"}`)), 1, "/not/$ref")
	faulty(t, read(t, doc("x:/a", `{"$ref":"b#/not"}`), doc("x:/b", `{"$id":"c","not":true,"items":{"$id":"d","$ref":"#/not"}}`)), 1, "/items/$ref")
}

// P14.3, R1: tables that no Read made: every call ends without a panic. What they hold by their places is led to, the first at a place.
func TestEdgesOfWrongTables(t *testing.T) {
	edged(t, api.Table{Schemas: []api.Schema{{}, {V: parsed(`5`)}, {V: parsed(`[{"$ref":"x"}]`)}, {V: parsed(`"$ref"`)}}})
	edged(t, api.Table{Schemas: []api.Schema{{V: parsed(`{"not":true,"if":{},"allOf":[true,1],"properties":[{}]}`)}}})
	alike := api.Table{Schemas: []api.Schema{
		{At: api.Place{Doc: -1, Pointer: "x"}, V: parsed(`{"not":5,"allOf":[1,true],"anyOf":{}}`)},
		{At: api.Place{Doc: -1, Pointer: "x/not"}}, {At: api.Place{Doc: -1, Pointer: "x/not"}}, {At: api.Place{Pointer: "x/allOf/0"}}, {At: api.Place{Doc: -1, Pointer: "x/allOf/1"}},
	}}
	edged(t, alike, "0 1 not =", "0 4 allOf =")
	for _, n := range []int{-1, 1, math.MaxInt, math.MinInt} {
		table := api.Table{
			Schemas: []api.Schema{{At: api.Place{Doc: n, Pointer: "\xff"}, V: parsed(`{"$dynamicRef":"#d"}`), Base: "x:/a", Resource: n}},
			Ids:     []api.Id{{Uri: "x:/a"}},
			Anchors: []api.Anchor{{Name: "d", Dynamic: true}, {Name: "d", Schema: n, Dynamic: true}, {Name: "d", Dynamic: true}, {Name: "d", Schema: 5}},
		}
		edged(t, table, "0 0 $dynamicRef = d", "0 "+strconv.Itoa(n)+" $dynamicRef = d")
		table.Ids[0].Schema = n
		faulty(t, table, n, "\xff/$dynamicRef")
	}
	nameless := api.Table{
		Schemas: []api.Schema{{V: parsed(`{"$dynamicRef":"#"}`), Base: "x:/a"}, {}},
		Ids:     []api.Id{{Uri: "x:/a"}},
		Anchors: []api.Anchor{{Dynamic: true}, {Schema: 1, Dynamic: true}},
	}
	edged(t, nameless, "0 0 $dynamicRef =")
	uneven := api.Value{Kind: api.Object, Keys: []string{"not", "not", "$ref"}, List: []api.Value{{}}}
	Edges(api.Table{Schemas: []api.Schema{{V: uneven}, {At: api.Place{Pointer: "/not"}, V: api.Value{Keys: []string{"$ref"}}}}})
	Target(api.Table{Schemas: []api.Schema{{V: uneven}}}, 0, "$ref")
}

// R3, R4: what is answered is the caller's own; the table stays as it was, and the same call answers the same.
func TestEdgesAreNew(t *testing.T) {
	docs := []api.Doc{doc("x:/a", `{"$dynamicAnchor":"d","not":{"$dynamicRef":"#d"},"$defs":{"a":{"$id":"b","$dynamicAnchor":"d"}},"$ref":"b"}`)}
	table, kept := read(t, docs...), read(t, docs...)
	first, _ := Edges(table)
	want := slices.Clone(first)
	clear(first[:cap(first)])
	numbers := Named(table, "d")
	clear(numbers[:cap(numbers)])
	second, _ := Edges(table)
	if !slices.Equal(second, want) || !slices.Equal(Named(table, "d"), []int{0, 2}) || !reflect.DeepEqual(table, kept) {
		t.Error(second, table)
	}
}

// P14.3: as many schemas as there may be, each with a reference of its own to another, in no time that grows with their square.
func TestManyReferences(t *testing.T) {
	const most = api.MaxSchemas - 1
	var text strings.Builder
	text.WriteString(`{"$defs":{`)
	for i := range most {
		if i > 0 {
			text.WriteString(",")
		}
		text.WriteString(`"` + strconv.Itoa(i) + `":{"$ref":"#/$defs/` + strconv.Itoa((i*7+5)%most) + `"}`)
	}
	text.WriteString(`}}`)
	edges, fault := Edges(read(t, doc("x:/a", text.String())))
	if fault.Code != api.OK || len(edges) != 2*most {
		t.Fatal(fault, len(edges))
	}
	for i := range most {
		if edges[i] != (api.Edge{To: i + 1, Word: "$defs"}) || edges[most+i] != (api.Edge{From: i + 1, To: (i*7+5)%most + 1, Word: "$ref", Same: true}) {
			t.Fatal(i, edges[i], edges[most+i])
		}
	}
}

// P14.3, P14.5: as deep as a text may be.
func TestDeep(t *testing.T) {
	const levels = api.MaxDepth - 1
	table := read(t, doc("x:/a", strings.Repeat(`{"not":`, levels)+`{"$ref":"#`+strings.Repeat("/not", levels)+`"}`+strings.Repeat("}", levels)))
	edges, fault := Edges(table)
	if fault.Code != api.OK || len(edges) != levels+1 || edges[levels] != (api.Edge{From: levels, To: levels, Word: "$ref", Same: true}) {
		t.Fatal(fault.Code, len(edges))
	}
	root, _ := bundle.Root(table, 0)
	if got := Reach(len(table.Schemas), edges, root); len(got) != levels+1 {
		t.Error(len(got))
	}
}
