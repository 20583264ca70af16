package refs

import (
	"fmt"
	"math"
	"reflect"
	"slices"
	"strings"
	"testing"

	"caliper/api"
	"caliper/bundle"
	"caliper/json"
)

// doc is a document.
func doc(uri, data string) api.Doc {
	return api.Doc{Uri: uri, Data: []byte(data)}
}

// read reads documents that are as they should be.
func read(t *testing.T, docs ...api.Doc) api.Table {
	t.Helper()
	table, fault := bundle.Read(docs)
	if fault.Code != api.OK {
		t.Fatalf("fault %d at %d %q", fault.Code, fault.At.Doc, fault.At.Pointer)
	}
	return table
}

// parsed is a text's value.
func parsed(s string) api.Value {
	v, _, errno := json.Parse([]byte(s))
	if errno != api.OK {
		panic(s)
	}
	return v
}

// place is the number of the schema at a document's pointer.
func place(t *testing.T, table api.Table, doc int, at string) int {
	t.Helper()
	n, errno := bundle.At(table, api.Place{Doc: doc, Pointer: at})
	if errno != api.OK {
		t.Fatalf("no schema at %d %q", doc, at)
	}
	return n
}

// leads asks for what Target answers.
func leads(t *testing.T, table api.Table, n int, word string, to int, name string) {
	t.Helper()
	if got, dynamic, e := Target(table, n, word); got != to || dynamic != name || e != api.OK {
		t.Errorf("Target of %d, %q: %d, %q, %d, not %d, %q", n, word, got, dynamic, e, to, name)
	}
}

// refused asks for an error of Target's, beside which all is zero.
func refused(t *testing.T, table api.Table, n int, word string, code api.Errno) {
	t.Helper()
	if to, name, e := Target(table, n, word); to != 0 || name != "" || e != code {
		t.Errorf("Target of %d, %q: %d, %q, %d, not %d", n, word, to, name, e, code)
	}
}

// lines are edges as texts: from, to, the word; = if they are to the same instance; the dynamic anchor's name.
func lines(edges []api.Edge) []string {
	var all []string
	for _, e := range edges {
		line := fmt.Sprintf("%d %d %s", e.From, e.To, e.Word)
		if e.Same {
			line += " ="
		}
		if e.Dynamic != "" {
			line += " " + e.Dynamic
		}
		all = append(all, line)
	}
	return all
}

// edged asks for what Edges answers, without a fault.
func edged(t *testing.T, table api.Table, want ...string) {
	t.Helper()
	edges, fault := Edges(table)
	if !reflect.DeepEqual(fault, api.Fault{}) {
		t.Errorf("fault %d at %d %q", fault.Code, fault.At.Doc, fault.At.Pointer)
	}
	if got := lines(edges); !slices.Equal(got, want) {
		t.Errorf("edges:\n%s\nnot:\n%s", strings.Join(got, "\n"), strings.Join(want, "\n"))
	}
}

// faulty asks for a fault of Edges, beside which there are none.
func faulty(t *testing.T, table api.Table, number int, at string) {
	t.Helper()
	edges, fault := Edges(table)
	if want := (api.Fault{Code: api.ErrRef, At: api.Place{Doc: number, Pointer: at}}); !reflect.DeepEqual(fault, want) {
		t.Errorf("fault %d at %d %q, not %d at %d %q", fault.Code, fault.At.Doc, fault.At.Pointer, want.Code, number, at)
	}
	if len(edges) != 0 {
		t.Errorf("%d edges beside a fault", len(edges))
	}
}

// The chapter's example.
func TestExample(t *testing.T) {
	table := read(t, doc("x:/a", `{"$ref":"#/$defs/a","$defs":{"a":{}}}`))
	edged(t, table, "0 1 $ref =", "0 1 $defs")
	leads(t, table, 0, "$ref", 1, "")
}

// P14.1: the dynamic anchors of a name alone, of all resources and documents, in the table's order.
func TestNamed(t *testing.T) {
	table := read(t,
		doc("x:/a", `{"$dynamicAnchor":"a","$anchor":"b","$defs":{"x":{"$id":"x","$dynamicAnchor":"a","not":{"$dynamicAnchor":"c"}},"y":{"$id":"y","$anchor":"a"}}}`),
		doc("x:/b", `{"not":{"$dynamicAnchor":"a"},"$dynamicAnchor":"b","$anchor":"d"}`))
	for name, want := range map[string][]int{
		"a": {0, 1, 5}, "b": {4}, "c": {2},
		"d": nil, "e": nil, "": nil, "A": nil, "a ": nil, "%61": nil, "#a": nil, "\xff": nil, "x": nil,
	} {
		if got := Named(table, name); !slices.Equal(got, want) {
			t.Errorf("Named %q: %v, not %v", name, got, want)
		}
	}
	for _, name := range []string{"", "a"} {
		if got := Named(api.Table{}, name); len(got) != 0 {
			t.Errorf("Named %q of nothing: %v", name, got)
		}
	}
}

// P14.1: of a table that no Read made the anchors count as they stand there, also twice, or without a name.
func TestNamedOfWrongTables(t *testing.T) {
	table := api.Table{Anchors: []api.Anchor{
		{Name: "a", Schema: 7, Dynamic: true}, {Name: "a", Schema: -1, Dynamic: true, Resource: 9}, {Name: "a", Schema: 1},
		{Name: "", Schema: 3, Dynamic: true}, {Name: "a", Schema: 7, Dynamic: true}, {Name: "a", Schema: math.MinInt, Dynamic: true},
	}}
	if got := Named(table, "a"); !slices.Equal(got, []int{7, -1, 7, math.MinInt}) {
		t.Error(got)
	}
	if got := Named(table, ""); !slices.Equal(got, []int{3}) {
		t.Error(got)
	}
}

// P14.2: ErrArg of what is no schema's number, of a schema without the word, of another word, though the schema has it.
func TestTargetOfNothing(t *testing.T) {
	table := read(t,
		doc("x:/a", `{"$ref":"#","not":{"$dynamicRef":"#"},"items":{"$id":"b","$anchor":"c","$schema":"x:/a","if":true,"then":false},"const":{"$ref":"#"}}`),
		doc("x:/b/c", `true`), doc("x:/d", `false`), doc("x:/e", `{}`))
	for _, word := range []string{"$ref", "$dynamicRef"} {
		for _, n := range []int{-1, len(table.Schemas), len(table.Schemas) + 1, math.MinInt, math.MaxInt} {
			refused(t, table, n, word, api.ErrArg)
		}
		for n := 2; n < len(table.Schemas); n++ {
			refused(t, table, n, word, api.ErrArg)
		}
		for _, n := range []int{-1, 0, 1} {
			refused(t, api.Table{}, n, word, api.ErrArg)
		}
	}
	leads(t, table, 0, "$ref", 0, "")
	refused(t, table, 0, "$dynamicRef", api.ErrArg)
	leads(t, table, 1, "$dynamicRef", 0, "")
	refused(t, table, 1, "$ref", api.ErrArg)
	for n := range table.Schemas {
		for _, word := range []string{"", "$id", "$anchor", "$schema", "not", "const", "if", "ref", "$Ref", "$ref ", "/$ref", "$recursiveRef", "\xff"} {
			refused(t, table, n, word, api.ErrArg)
		}
	}
}

// references are two documents whose schema at /$defs/from/not has a word that holds a reference.
func references(t *testing.T, word, reference string) (api.Table, int) {
	t.Helper()
	table := read(t,
		doc("http://h/p/a?q", `{"$anchor":"top","$defs":{"from":{"$id":"in/b","not":{"`+word+`":"`+reference+`"},"$defs":{"x":{"$anchor":"here"},"a/b~%é":true,"":{"$anchor":"e"}}},"d":{"$anchor":"d.1"}},"const":{"not":true}}`),
		doc("y:", `{"$anchor":"there","properties":{"k":{"$id":"y:k","items":{"$anchor":"deep"}}},"allOf":[true,{}]}`))
	return table, place(t, table, 0, "/$defs/from/not")
}

// P14.2: references of all forms, from the base of the schema that has them.
func TestTarget(t *testing.T) {
	for _, c := range []struct {
		reference string
		doc       int
		at        string
	}{
		{"", 0, "/$defs/from"}, {"#", 0, "/$defs/from"}, {"b", 0, "/$defs/from"}, {"./b#", 0, "/$defs/from"}, {"../in/b", 0, "/$defs/from"}, {"/p/in/b", 0, "/$defs/from"}, {"//h/p/in/b", 0, "/$defs/from"}, {"http://h/p/in/b", 0, "/$defs/from"},
		{"#/not", 0, "/$defs/from/not"}, {"#/%6Eot", 0, "/$defs/from/not"}, {"#%2Fnot", 0, "/$defs/from/not"}, {"b#/not", 0, "/$defs/from/not"},
		{"#here", 0, "/$defs/from/$defs/x"}, {"#h%65re", 0, "/$defs/from/$defs/x"}, {"#/$defs/x", 0, "/$defs/from/$defs/x"}, {"http://h/p/in/b#here", 0, "/$defs/from/$defs/x"},
		{"#/$defs/a~1b~0%25%C3%A9", 0, "/$defs/from/$defs/a~1b~0%é"}, {"#/$defs/", 0, "/$defs/from/$defs/"},
		{"../a?q", 0, ""}, {"../a?q#", 0, ""}, {"../a?q#top", 0, ""}, {"http://h/p/a?q#/$defs/d", 0, "/$defs/d"}, {"../a?q#d.1", 0, "/$defs/d"}, {"../a?q#/$defs/from/not", 0, "/$defs/from/not"}, {"../a?q#/$defs/from/$defs/x", 0, "/$defs/from/$defs/x"},
		{"y:", 1, ""}, {"y:#", 1, ""}, {"y:#there", 1, ""}, {"y:#/allOf/1", 1, "/allOf/1"}, {"y:#/properties/k/items", 1, "/properties/k/items"}, {"y:k", 1, "/properties/k"}, {"y:k#/items", 1, "/properties/k/items"}, {"y:k#deep", 1, "/properties/k/items"},
	} {
		for _, word := range []string{"$ref", "$dynamicRef"} {
			table, n := references(t, word, c.reference)
			to := place(t, table, c.doc, c.at)
			leads(t, table, n, word, to, "")
			edges, fault := Edges(table)
			if fault.Code != api.OK || !slices.Contains(edges, api.Edge{From: n, To: to, Word: word, Same: true}) {
				t.Errorf("%s %q: fault %d, %v", word, c.reference, fault.Code, edges)
			}
		}
	}
}

// P14.2, P14.3: references to nothing: to what no schema stands at, to a URI or a name that nobody has, to those of another resource, with percent signs that mean no text.
func TestTargetToNothing(t *testing.T) {
	for _, reference := range []string{
		"a", "b/", "B", "b?", "?q", "../a", "../in/B", "http://h/p/a", "HTTP://h/p/in/b", "//h", "y", "y:/", "y:k?", "z:",
		"#/", "#//", "#/not/", "#/$defs", "#/$defs/y", "#/$defs/x/x", "#/$defs/from", "#/$defs/a/b~0%25%C3%A9", "#/$defs/a~1b~%25%C3%A9", "#/$defs/a~1b~0%2525%C3%A9", "#/$defs/a~1b~0%25%C3", "../a?q#/const/not", "../a?q#/const", "y:#/allOf", "y:#/allOf/2", "y:#/allOf/00", "y:k#/properties/k",
		"#Here", "#her", "#here/", "#h%2565re", "#top", "#d.1", "#%ff", "../a?q#here", "y:#deep", "y:k#there", "y:there", "#not",
	} {
		for _, word := range []string{"$ref", "$dynamicRef"} {
			table, n := references(t, word, reference)
			refused(t, table, n, word, api.ErrRef)
			faulty(t, table, 0, "/$defs/from/not/"+word)
		}
	}
}

// P14.2: the name beside what a $dynamicRef leads to: where its fragment is the name of a dynamic anchor of that schema; never beside a $ref.
func TestTargetsName(t *testing.T) {
	const inner = `{"$id":"b","$dynamicAnchor":"d","$anchor":"p","not":{"$dynamicAnchor":"n.-_1"},"if":{"$anchor":"q"},"$defs":{"d":{}}}`
	for _, c := range []struct{ reference, at, name string }{
		{"b#d", "/$defs/b", "d"}, {"b#%64", "/$defs/b", "d"}, {"x:/b#d", "/$defs/b", "d"},
		{"b#n.-_1", "/$defs/b/not", "n.-_1"}, {"b#n%2E%2d_%31", "/$defs/b/not", "n.-_1"},
		{"b", "/$defs/b", ""}, {"b#", "/$defs/b", ""}, {"b#p", "/$defs/b", ""}, {"b#%70", "/$defs/b", ""}, {"b#q", "/$defs/b/if", ""},
		{"b#/not", "/$defs/b/not", ""}, {"b#/$defs/d", "/$defs/b/$defs/d", ""}, {"#/$defs/b", "/$defs/b", ""}, {"#/$defs/b/not", "/$defs/b/not", ""},
		{"#t", "", "t"}, {"", "", ""}, {"#", "", ""}, {"a#t", "", "t"}, {"#d", "/$defs/plain", ""},
	} {
		for _, word := range []string{"$ref", "$dynamicRef"} {
			table := read(t, doc("x:/a", `{"$dynamicAnchor":"t","$defs":{"b":`+inner+`,"plain":{"$anchor":"d"}},"`+word+`":"`+c.reference+`"}`))
			name := c.name
			if word == "$ref" {
				name = ""
			}
			leads(t, table, 0, word, place(t, table, 0, c.at), name)
		}
	}
}

// P14.2: a schema may have both words, each with its own target, and each refused by itself.
func TestBothWords(t *testing.T) {
	table := read(t, doc("x:/a", `{"$dynamicRef":"#d","$ref":"#/not","not":{"$dynamicAnchor":"d","$ref":"#d"},"if":{"$ref":"#","$dynamicRef":"#x"},"else":{"$dynamicRef":"","$ref":"y:"}}`))
	leads(t, table, 0, "$ref", 1, "")
	leads(t, table, 0, "$dynamicRef", 1, "d")
	leads(t, table, 1, "$ref", 1, "")
	leads(t, table, 2, "$ref", 0, "")
	refused(t, table, 2, "$dynamicRef", api.ErrRef)
	leads(t, table, 3, "$dynamicRef", 0, "")
	refused(t, table, 3, "$ref", api.ErrRef)
}

// P14.2, R1: tables that no Read made: what Join refuses, what is no text, numbers that are none, anchors that stand apart from the schemas.
func TestTargetOfWrongTables(t *testing.T) {
	table := func(base, held string, others ...api.Schema) api.Table {
		first := api.Schema{V: parsed(`{"$ref":` + held + `,"$dynamicRef":` + held + `}`), Base: base}
		return api.Table{Schemas: append([]api.Schema{first}, others...), Ids: []api.Id{{Uri: "x:/a"}, {Uri: ""}, {Uri: "a"}}}
	}
	for _, word := range []string{"$ref", "$dynamicRef"} {
		leads(t, table("x:/b", `"a"`), 0, word, 0, "")
		for _, base := range []string{"", "a", "/a", "x:/a#", "x:/a b", ":", "\xff"} {
			refused(t, table(base, `"x:/a"`), 0, word, api.ErrRef)
			refused(t, table(base, `""`), 0, word, api.ErrRef)
		}
		for _, held := range []string{`"%"`, `"x:/a#%"`, `"a b"`, `"é"`, `"x:/a##"`, `"1:"`, `null`, `true`, `5`, `[]`, `["x:/a"]`, `{}`, `{"$ref":"x:/a"}`} {
			refused(t, table("x:/a", held), 0, word, api.ErrRef)
			faulty(t, table("x:/a", held), 0, "/$ref")
		}
		for _, n := range []int{-1, 1, math.MaxInt, math.MinInt} {
			wrong := table("x:/a", `"#b"`)
			wrong.Ids[0].Schema = n
			refused(t, wrong, 0, word, api.ErrRef)
			wrong.Ids[0].Schema = 0
			wrong.Anchors = []api.Anchor{{Name: "b", Schema: n, Dynamic: true}, {Name: "b", Dynamic: true}}
			refused(t, wrong, 0, word, api.ErrRef)
		}
	}
	apart := table("x:/a", `"#b"`, api.Schema{}, api.Schema{})
	apart.Anchors = []api.Anchor{{Name: "b", Schema: 1}, {Name: "b", Schema: 2, Dynamic: true}}
	leads(t, apart, 0, "$dynamicRef", 1, "")
	apart.Anchors[1].Schema = 1
	leads(t, apart, 0, "$dynamicRef", 1, "b")
	leads(t, apart, 0, "$ref", 1, "")
}
