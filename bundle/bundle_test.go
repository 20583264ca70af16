package bundle

import (
	"fmt"
	"reflect"
	"slices"
	"strconv"
	"strings"
	"testing"

	"caliper/api"
	"caliper/value"
)

// doc is a document.
func doc(uri, data string) api.Doc {
	return api.Doc{Uri: uri, Data: []byte(data)}
}

// read reads documents that are as they should be.
func read(t *testing.T, docs ...api.Doc) api.Table {
	t.Helper()
	table, fault := Read(docs)
	if !reflect.DeepEqual(fault, api.Fault{}) {
		t.Fatalf("fault %d at %d %q", fault.Code, fault.At.Doc, fault.At.Pointer)
	}
	return table
}

// refused asks for a fault, beside which there is no table.
func refused(t *testing.T, code api.Errno, number int, at string, docs ...api.Doc) {
	t.Helper()
	table, fault := Read(docs)
	want := api.Fault{Code: code, At: api.Place{Doc: number, Pointer: at}}
	if !reflect.DeepEqual(fault, want) {
		t.Errorf("%s: fault %d at %d %q, not %d at %d %q", shown(docs), fault.Code, fault.At.Doc, fault.At.Pointer, code, number, at)
	}
	if len(table.Schemas)+len(table.Ids)+len(table.Anchors) != 0 {
		t.Errorf("%s: a table beside a fault", shown(docs))
	}
}

// shown are documents as a text that is not too long.
func shown(docs []api.Doc) string {
	var out strings.Builder
	for _, d := range docs[:min(len(docs), 4)] {
		out.WriteString(d.Uri + " " + string(d.Data[:min(len(d.Data), 300)]) + " ")
	}
	return out.String()
}

// lines are a table's parts, one a line: schemas as their document, pointer, resource, base and text; Ids as their URI and schema; Anchors as their resource, name, schema, and whether they are dynamic.
func lines(table api.Table) []string {
	var all []string
	for _, s := range table.Schemas {
		text, _ := value.Text(s.V)
		all = append(all, fmt.Sprintf("%d %q %d %s %s", s.At.Doc, s.At.Pointer, s.Resource, s.Base, text))
	}
	for _, id := range table.Ids {
		all = append(all, fmt.Sprintf("id %s %d", id.Uri, id.Schema))
	}
	for _, a := range table.Anchors {
		all = append(all, fmt.Sprintf("anchor %d %s %d %t", a.Resource, a.Name, a.Schema, a.Dynamic))
	}
	return all
}

// holds asks for a table's parts.
func holds(t *testing.T, table api.Table, want ...string) {
	t.Helper()
	if got := lines(table); !slices.Equal(got, want) {
		t.Errorf("table:\n%s\nnot:\n%s", strings.Join(got, "\n"), strings.Join(want, "\n"))
	}
}

// found asks for what Find answers; a number below 0 means that there is none.
func found(t *testing.T, table api.Table, uri string, want int) {
	t.Helper()
	n, e := Find(table, uri)
	asked(t, "Find "+strconv.Quote(uri), n, e, want)
}

func asked(t *testing.T, what string, n int, e api.Errno, want int) {
	t.Helper()
	code := api.OK
	if want < 0 {
		want, code = 0, api.ErrRef
	}
	if n != want || e != code {
		t.Errorf("%s: %d, %d, not %d, %d", what, n, e, want, code)
	}
}

// The chapter's example.
func TestExample(t *testing.T) {
	table := read(t, doc("x:/a", `{"$defs":{"b":{"$id":"c","$anchor":"d"}}}`))
	holds(t, table,
		`0 "" 0 x:/a {"$defs":{"b":{"$anchor":"d","$id":"c"}}}`,
		`0 "/$defs/b" 1 x:/c {"$anchor":"d","$id":"c"}`,
		`id x:/a 0`, `id x:/c 1`, `anchor 1 d 1 false`)
	found(t, table, "x:/c#d", 1)
	found(t, table, "x:/a#/$defs/b", 1)
	found(t, table, "x:/a#/x", -1)
	found(t, table, "x:/a#d", -1)
}

// P13.1, P13.4: no documents have a table without anything, and no fault.
func TestNoDocuments(t *testing.T) {
	holds(t, read(t))
	if table, fault := Read([]api.Doc{}); len(lines(table)) != 0 || !reflect.DeepEqual(fault, api.Fault{}) {
		t.Error(table, fault)
	}
}

// P13.1: documents without any schema but themselves.
func TestPlainDocuments(t *testing.T) {
	holds(t, read(t, doc("x:/a", " true\n"), doc("x:/b", "false"), doc("x:", "{}")),
		`0 "" 0 x:/a true`, `1 "" 1 x:/b false`, `2 "" 2 x: {}`,
		`id x:/a 0`, `id x:/b 1`, `id x: 2`)
}

// P13.1: schemas stand in the order of members and elements, each ahead of all that is in it, and that ahead of what comes next; what keywords hold besides is no schema.
func TestOrder(t *testing.T) {
	table := read(t,
		doc("x:/a", `{"properties":{"z":{"not":{"items":false}},"a":{"x":{"not":1}}},"enum":[{"not":true}],"anyOf":[{"allOf":[true,false]},{"if":true,"then":{},"else":false}],"$defs":{},"const":{"not":{}}}`),
		doc("x:/b", `{"prefixItems":[{}],"patternProperties":{"a~/b":true}}`))
	var places []string
	for _, s := range table.Schemas {
		places = append(places, strconv.Itoa(s.At.Doc)+s.At.Pointer)
	}
	want := []string{"0", "0/properties/z", "0/properties/z/not", "0/properties/z/not/items", "0/properties/a",
		"0/anyOf/0", "0/anyOf/0/allOf/0", "0/anyOf/0/allOf/1", "0/anyOf/1", "0/anyOf/1/if", "0/anyOf/1/then", "0/anyOf/1/else",
		"1", "1/prefixItems/0", "1/patternProperties/a~0~1b"}
	if !slices.Equal(places, want) {
		t.Errorf("%q, not %q", places, want)
	}
	if text, _ := value.Text(table.Schemas[2].V); text != `{"items":false}` {
		t.Error(text)
	}
}

// P13.1: every keyword that holds schemas, and which of its elements stand for which pointer.
func TestKeywords(t *testing.T) {
	for _, key := range strings.Fields("additionalProperties contains contentSchema else if items not propertyNames then unevaluatedItems unevaluatedProperties") {
		holds(t, read(t, doc("x:/a", `{"`+key+`":{"title":"b"}}`)),
			`0 "" 0 x:/a {"`+key+`":{"title":"b"}}`, `0 "/`+key+`" 0 x:/a {"title":"b"}`, `id x:/a 0`)
	}
	for _, key := range strings.Fields("allOf anyOf oneOf prefixItems") {
		holds(t, read(t, doc("x:/a", `{"`+key+`":[{"title":"b"},false]}`)),
			`0 "" 0 x:/a {"`+key+`":[{"title":"b"},false]}`, `0 "/`+key+`/0" 0 x:/a {"title":"b"}`, `0 "/`+key+`/1" 0 x:/a false`, `id x:/a 0`)
	}
	for _, key := range strings.Fields("$defs dependentSchemas patternProperties properties") {
		holds(t, read(t, doc("x:/a", `{"`+key+`":{"1":{"title":"b"},"0":false,"":true}}`)),
			`0 "" 0 x:/a {"`+key+`":{"":true,"0":false,"1":{"title":"b"}}}`,
			`0 "/`+key+`/1" 0 x:/a {"title":"b"}`, `0 "/`+key+`/0" 0 x:/a false`, `0 "/`+key+`/" 0 x:/a true`, `id x:/a 0`)
	}
}

// P13.1: a Uri that is not absolute, ahead of all else of that document.
func TestUriRefused(t *testing.T) {
	for _, uri := range []string{"", "a", "/a", "//a/b", "?a", "#", "x:/a#", "x:/a#b", "x:/a b", "x:/a%", "1x:/a", ":/a", "x:/\xc3\xa9"} {
		refused(t, api.ErrBundle, 0, "", doc(uri, "true"))
		refused(t, api.ErrBundle, 0, "", doc(uri, "{"))
		refused(t, api.ErrBundle, 1, "", doc("x:/a", "true"), doc(uri, `{"not":1}`), doc("x:/a", ""))
	}
}

// P13.1: a Uri that an elder document has, ahead of what is wrong with the document's Data. URIs are the same byte by byte alone.
func TestUriTwice(t *testing.T) {
	refused(t, api.ErrTwice, 1, "", doc("x:/a", "true"), doc("x:/a", "true"))
	refused(t, api.ErrTwice, 1, "", doc("x:/a", "true"), doc("x:/a", "{"))
	refused(t, api.ErrTwice, 1, "", doc("x:/a", "true"), doc("x:/a", `{"not":1}`))
	refused(t, api.ErrTwice, 2, "", doc("x:/a", "true"), doc("x:/b", "true"), doc("x:/a", "true"), doc("x:/b", "true"))
	table := read(t, doc("x:/a", "true"), doc("X:/a", "true"), doc("x:/A", "true"), doc("x:/%61", "true"), doc("x:/./a", "true"), doc("x:/a?", "true"))
	for n, id := range table.Ids {
		found(t, table, id.Uri, n)
	}
}

// P13.1: Data that is no text, or none within the bounds.
func TestDataRefused(t *testing.T) {
	for _, data := range []string{"", " ", "{", "tru", "true true", `{"a":1,"a":2}`, `{"not":true,}`, "\xff", `"\ud800"`} {
		refused(t, api.ErrJSON, 0, "", doc("x:/a", data))
		refused(t, api.ErrJSON, 1, "", doc("x:/a", "true"), doc("x:/b", data), doc("x:/b", data))
	}
	refused(t, api.ErrJSON, 0, "", api.Doc{Uri: "x:/a"})
	long := "true" + strings.Repeat(" ", api.MaxBytes-4)
	read(t, doc("x:/a", long))
	refused(t, api.ErrLong, 0, "", doc("x:/a", long+" "))
	refused(t, api.ErrLarge, 0, "", doc("x:/a", nest("not", api.MaxDepth, "{}")))
	refused(t, api.ErrLarge, 0, "", doc("x:/a", `{"maximum":1e1000001}`))
	refused(t, api.ErrLarge, 0, "", doc("x:/a", `{"maximum":`+strings.Repeat("1", api.MaxDigits+1)+`}`))
}

// P13.1: a value that is no schema, at the pointer that layer 12 tells.
func TestShapeRefused(t *testing.T) {
	for _, data := range []string{"null", "1", `"a"`, "[]", "[true]"} {
		refused(t, api.ErrShape, 0, "", doc("x:/a", data))
	}
	refused(t, api.ErrShape, 0, "/allOf/1", doc("x:/a", `{"allOf":[true,1]}`))
	refused(t, api.ErrRx, 1, "/$defs/a~1b/pattern", doc("x:/a", "{}"), doc("x:/b", `{"$defs":{"a/b":{"pattern":"("}}}`))
	refused(t, api.ErrVocab, 0, "/$vocabulary", doc("x:/a", `{"$vocabulary":{"x:/v":true}}`))
	refused(t, api.ErrShape, 0, "/$id", doc("x:/a", `{"$id":"b#c"}`))
	refused(t, api.ErrShape, 0, "/$anchor", doc("x:/a", `{"$anchor":"b c"}`))
	refused(t, api.ErrShape, 0, "/not/$dynamicAnchor", doc("x:/a", `{"not":{"$dynamicAnchor":""}}`))
}

// P13.1: of several documents with faults the first one's, whichever they are; of those of one document the one that the chapter names first.
func TestFirstDocument(t *testing.T) {
	faulty := []struct {
		d    api.Doc
		code api.Errno
		at   string
	}{
		{doc("b", "true"), api.ErrBundle, ""},
		{doc("x:/a", "true"), api.ErrTwice, ""},
		{doc("x:/b", "{"), api.ErrJSON, ""},
		{doc("x:/c", `{"items":[]}`), api.ErrShape, "/items"},
	}
	for _, one := range faulty {
		for _, other := range faulty {
			refused(t, one.code, 1, one.at, doc("x:/a", "true"), one.d, other.d)
			refused(t, one.code, 2, one.at, doc("x:/a", "true"), doc("x:/0", `{"$anchor":"a","not":{"$anchor":"a"}}`), one.d, other.d)
		}
	}
}

// nest is a value in so many objects with one member.
func nest(key string, levels int, inner string) string {
	return strings.Repeat(`{"`+key+`":`, levels) + inner + strings.Repeat("}", levels)
}

// row is an object whose member is a row of so many schemas.
func row(key string, schemas int) string {
	return `{"` + key + `":[` + strings.Repeat("true,", schemas-1) + "true]}"
}

// P13.1: MaxSchemas are taken, the first one more is told: within a document, as a document's value, and deep in one.
func TestMaxSchemas(t *testing.T) {
	if n := len(read(t, doc("x:/a", row("allOf", api.MaxSchemas-1))).Schemas); n != api.MaxSchemas {
		t.Error(n)
	}
	refused(t, api.ErrBundle, 0, "/allOf/16383", doc("x:/a", row("allOf", api.MaxSchemas)))
	refused(t, api.ErrBundle, 0, "/allOf/16383", doc("x:/a", row("allOf", 5*api.MaxSchemas)))
	refused(t, api.ErrBundle, 1, "", doc("x:/a", row("allOf", api.MaxSchemas-1)), doc("x:/b", "true"))
	refused(t, api.ErrBundle, 1, "", doc("x:/a", row("allOf", api.MaxSchemas-1)), doc("x:/b", row("anyOf", 3)), doc("x:/c", "true"))
	refused(t, api.ErrBundle, 1, "/not/not/anyOf/2", doc("x:/a", row("allOf", api.MaxSchemas-6)), doc("x:/b", nest("not", 2, row("anyOf", 4))))
	var docs []api.Doc
	for i := range api.MaxSchemas {
		docs = append(docs, doc("x:/"+strconv.Itoa(i), "false"))
	}
	if table := read(t, docs...); len(table.Schemas) != api.MaxSchemas || len(table.Ids) != api.MaxSchemas {
		t.Error(len(table.Schemas), len(table.Ids))
	}
	refused(t, api.ErrBundle, api.MaxSchemas, "", append(docs, doc("x:/a", "{}"))...)
}

// P13.1: too many schemas go ahead of URIs and names that are there twice, and behind what is wrong with any document.
func TestMaxSchemasFirst(t *testing.T) {
	twice := `{"$anchor":"b","$id":"x:/z","allOf":[{"$anchor":"b"},{"$id":"x:/z"},{"$id":"x:/b"}]}`
	most := doc("x:/b", row("allOf", api.MaxSchemas-5))
	refused(t, api.ErrTwice, 0, "/allOf/0", doc("x:/a", twice), doc("x:/b", row("allOf", api.MaxSchemas-6)))
	refused(t, api.ErrTwice, 0, "/allOf/0", doc("x:/a", twice), most)
	refused(t, api.ErrBundle, 2, "", doc("x:/a", twice), most, doc("x:/c", "true"))
	refused(t, api.ErrBundle, 3, "", doc("x:/a", twice), most, doc("x:/c", "true"), doc("c", "true"))
	refused(t, api.ErrTwice, 3, "", doc("x:/a", twice), most, doc("x:/c", "true"), doc("x:/a", "true"))
	refused(t, api.ErrJSON, 3, "", doc("x:/a", twice), most, doc("x:/c", "true"), doc("x:/d", ""))
	refused(t, api.ErrShape, 3, "/not", doc("x:/a", twice), most, doc("x:/c", "true"), doc("x:/d", `{"not":0}`))
}

// bases asks for each schema's base and resource.
func bases(t *testing.T, table api.Table, want ...string) {
	t.Helper()
	var got []string
	for _, s := range table.Schemas {
		got = append(got, s.Base+" "+strconv.Itoa(s.Resource))
	}
	if !slices.Equal(got, want) {
		t.Errorf("%q, not %q", got, want)
	}
}

// P13.2: a $id at a document's value, deeper, and within one another; what stands beside one has nothing of it.
func TestBases(t *testing.T) {
	bases(t, read(t, doc("http://a/b/c", `{"not":{"items":true}}`), doc("x:/d", `{"not":true}`)),
		"http://a/b/c 0", "http://a/b/c 0", "http://a/b/c 0", "x:/d 3", "x:/d 3")
	bases(t, read(t, doc("x:/d", "true"), doc("http://a/b/c", `{"$id":"e/f","not":{"items":true}}`)),
		"x:/d 0", "http://a/b/e/f 1", "http://a/b/e/f 1", "http://a/b/e/f 1")
	bases(t, read(t, doc("http://a/b/c", `{"$defs":{"x":true,"y":{"not":{"$id":"g"},"$id":"e/f","items":{"not":{}}},"z":true},"if":true}`)),
		"http://a/b/c 0", "http://a/b/c 0", "http://a/b/e/f 2", "http://a/b/e/g 3", "http://a/b/e/f 2", "http://a/b/e/f 2", "http://a/b/c 0", "http://a/b/c 0")
	bases(t, read(t, doc("x:/a/", `{"$id":"b/","not":{"$id":"c/","not":{"$id":"d/","not":{"not":{"$id":"../e"}}}}}`)),
		"x:/a/b/ 0", "x:/a/b/c/ 1", "x:/a/b/c/d/ 2", "x:/a/b/c/d/ 2", "x:/a/b/c/e 4")
}

// P13.2: a $id that is a reference of each kind, without its fragment, at a document's value and deeper, where it may not come to the document's Uri.
func TestIdKinds(t *testing.T) {
	for id, want := range map[string]string{
		"y:/z":         "y:/z",
		"y:/z/../w":    "y:/w",
		"//h/p":        "http://h/p",
		"/p":           "http://a/p",
		"p":            "http://a/b/p",
		"p/":           "http://a/b/p/",
		"./p?r":        "http://a/b/p?r",
		"..":           "http://a/",
		"../p":         "http://a/p",
		"../../../p":   "http://a/p",
		".":            "http://a/b/",
		"?r":           "http://a/b/c?r",
		"c":            "http://a/b/c",
		"c?q":          "http://a/b/c?q",
		"":             "http://a/b/c?q",
		"#":            "http://a/b/c?q",
		"p#":           "http://a/b/p",
		"y:/z#":        "y:/z",
		"urn:a:b":      "urn:a:b",
		"%7e":          "http://a/b/%7e",
		"http://a/b/c": "http://a/b/c",
	} {
		bases(t, read(t, doc("http://a/b/c?q", `{"$id":"`+id+`","not":true}`)), want+" 0", want+" 0")
		deeper := doc("http://a/b/c?q", `{"not":{"$id":"`+id+`","not":true}}`)
		if want == deeper.Uri {
			refused(t, api.ErrTwice, 0, "/not", deeper)
			continue
		}
		bases(t, read(t, deeper), "http://a/b/c?q 0", want+" 1", want+" 1")
	}
}

// P13.2, P13.3: what is called $id but is none: a key of $defs, of const, of what is no keyword.
func TestNoIds(t *testing.T) {
	holds(t, read(t, doc("x:/a", `{"$defs":{"$id":{},"$anchor":true},"const":{"$id":"b","$anchor":"c"},"x":{"$id":"d"},"enum":[{"$dynamicAnchor":"e"}]}`)),
		`0 "" 0 x:/a {"$defs":{"$anchor":true,"$id":{}},"const":{"$anchor":"c","$id":"b"},"enum":[{"$dynamicAnchor":"e"}],"x":{"$id":"d"}}`,
		`0 "/$defs/$id" 0 x:/a {}`, `0 "/$defs/$anchor" 0 x:/a true`, `id x:/a 0`)
}

// P13.3: Ids of documents, of $ids at their values and deeper, in the schemas' order. A document's value has its Uri also where a $id makes another base.
func TestIds(t *testing.T) {
	holds(t, read(t,
		doc("x:/a", `{"$id":"b","not":{"$id":"c#"},"items":{"not":{"$id":"y:/d"}}}`),
		doc("x:/e", `{"$id":"x:/e"}`),
		doc("x:/f", `{"$id":""}`)),
		`0 "" 0 x:/b {"$id":"b","items":{"not":{"$id":"y:/d"}},"not":{"$id":"c#"}}`,
		`0 "/not" 1 x:/c {"$id":"c#"}`,
		`0 "/items" 0 x:/b {"not":{"$id":"y:/d"}}`,
		`0 "/items/not" 3 y:/d {"$id":"y:/d"}`,
		`1 "" 4 x:/e {"$id":"x:/e"}`,
		`2 "" 5 x:/f {"$id":""}`,
		`id x:/a 0`, `id x:/b 0`, `id x:/c 1`, `id y:/d 3`, `id x:/e 4`, `id x:/f 5`)
}

// P13.3, P13.4: a deeper $id that comes to the base that the schema would have anyway is a URI twice: what it stands in has that one, whichever way it came to it.
func TestIdOfTheSameBase(t *testing.T) {
	for _, id := range []string{"", "#", "a", "a#", "/a", "./a", "x:/a", "x:/a#", "x:/b/../a"} {
		refused(t, api.ErrTwice, 0, "/not", doc("x:/a", `{"not":{"$id":"`+id+`"}}`))
		refused(t, api.ErrTwice, 0, "/not", doc("x:/a", `{"not":{"$id":"`+id+`","$anchor":"c","not":{"$anchor":"c"}}}`))
		refused(t, api.ErrTwice, 0, "/if/allOf/1/items", doc("x:/a", `{"if":{"allOf":[true,{"items":{"$id":"`+id+`"}}]},"not":{"$id":"`+id+`"}}`))
		refused(t, api.ErrTwice, 0, "/not", doc("x:/b", `{"$id":"a","not":{"$id":"`+id+`"}}`))
		refused(t, api.ErrTwice, 0, "/not/not", doc("x:/b", `{"not":{"$id":"a","not":{"$id":"`+id+`"}}}`))
		refused(t, api.ErrTwice, 1, "/not/items", doc("x:/b", `{"$id":"c"}`), doc("x:/a", `{"$id":"a","not":{"items":{"$id":"`+id+`"}}}`))
	}
	for _, uri := range []string{"x:", "y:", "x:a", "x://h", "x:/a?q", "urn:a:b"} {
		refused(t, api.ErrTwice, 0, "/items/then/propertyNames", doc(uri, `{"items":{"then":{"propertyNames":{"$id":""}}}}`))
		refused(t, api.ErrTwice, 0, "/items", doc(uri, `{"items":{"$id":"","anyOf":[{"$anchor":"a"}]}}`))
	}
}

// P13.3: a document's value has its Uri once, where its $id comes to that; it is no other resource by it, and its anchors are found.
func TestIdOfTheSameUri(t *testing.T) {
	for _, id := range []string{"", "#", "a", "a#", "/a", "./a", "x:/a", "x:/a#", "x:/b/../a"} {
		table := read(t, doc("x:/a", `{"$id":"`+id+`","$anchor":"d","not":{"$dynamicAnchor":"e"}}`))
		bases(t, table, "x:/a 0", "x:/a 0")
		if want := []api.Id{{Uri: "x:/a"}}; !slices.Equal(table.Ids, want) {
			t.Error(id, table.Ids)
		}
		found(t, table, "x:/a#d", 0)
		found(t, table, "x:/a#e", 1)
		table = read(t, doc("x:/b", `true`), doc("x:/a", `{"$id":"`+id+`"}`))
		if want := []api.Id{{Uri: "x:/b"}, {Uri: "x:/a", Schema: 1}}; !slices.Equal(table.Ids, want) {
			t.Error(id, table.Ids)
		}
	}
}

// P13.3: a URI that an elder schema has, by a $id or as a document's.
func TestIdTwice(t *testing.T) {
	refused(t, api.ErrTwice, 0, "/allOf/1", doc("x:/a", `{"allOf":[{"$id":"b"},{"$id":"/b"}]}`))
	refused(t, api.ErrTwice, 0, "/allOf/2", doc("x:/a", `{"allOf":[{"$id":"b"},true,{"$id":"b#"}]}`))
	refused(t, api.ErrTwice, 1, "/not", doc("x:/a", `true`), doc("x:/b", `{"not":{"$id":"a"}}`))
	refused(t, api.ErrTwice, 1, "", doc("x:/a", `{"not":{"$id":"b"}}`), doc("x:/b", `true`))
	refused(t, api.ErrTwice, 1, "", doc("x:/a", `{"$id":"b"}`), doc("x:/b", `{"$id":"c"}`))
	refused(t, api.ErrTwice, 1, "", doc("x:/a", `true`), doc("x:/b", `{"$id":"a"}`))
	refused(t, api.ErrTwice, 1, "", doc("x:/a", `{"$id":"c"}`), doc("x:/b", `{"$id":"c"}`))
	refused(t, api.ErrTwice, 0, "/not", doc("x:/a", `{"$id":"b","not":{"$id":"a"}}`))
	refused(t, api.ErrTwice, 0, "/not/not", doc("x:/a", `{"not":{"$id":"b","not":{"$id":"a"}}}`))
	refused(t, api.ErrTwice, 0, "/not/not/not", doc("x:/a", `{"not":{"$id":"b","not":{"$id":"c","not":{"$id":"b"}}}}`))
	bases(t, read(t, doc("x:/a", `{"allOf":[{"$id":"b"},{"$id":"B"},{"$id":"%62"},{"$id":"b?"},{"$id":"b/"}]}`)),
		"x:/a 0", "x:/b 1", "x:/B 2", "x:/%62 3", "x:/b? 4", "x:/b/ 5")
}

// P13.3: anchors of both kinds, schema by schema, first $anchor; in the resource that a schema's own $id makes.
func TestAnchors(t *testing.T) {
	table := read(t, doc("x:/a", `{"$dynamicAnchor":"d","$anchor":"c","not":{"$dynamicAnchor":"e"},"items":{"$anchor":"f","$id":"g","not":{"$anchor":"c"}},"if":{"$anchor":"h"}}`), doc("x:/b", `{"$anchor":"c"}`))
	want := []api.Anchor{
		{Resource: 0, Name: "c", Schema: 0}, {Resource: 0, Name: "d", Schema: 0, Dynamic: true},
		{Resource: 0, Name: "e", Schema: 1, Dynamic: true},
		{Resource: 2, Name: "f", Schema: 2}, {Resource: 2, Name: "c", Schema: 3},
		{Resource: 0, Name: "h", Schema: 4},
		{Resource: 5, Name: "c", Schema: 5},
	}
	if !slices.Equal(table.Anchors, want) {
		t.Error(table.Anchors)
	}
}

// P13.3: a name twice in a resource, of whichever kinds, in one schema or in two; once in each of two resources it may be.
func TestAnchorTwice(t *testing.T) {
	for _, one := range []string{"$anchor", "$dynamicAnchor"} {
		for _, other := range []string{"$anchor", "$dynamicAnchor"} {
			refused(t, api.ErrTwice, 0, "/not/items", doc("x:/a", `{"if":{"`+one+`":"b"},"not":{"items":{"`+other+`":"b"}},"then":{"`+other+`":"b"}}`))
			refused(t, api.ErrTwice, 0, "/not", doc("x:/a", `{"$id":"c","`+one+`":"b","not":{"`+other+`":"b"}}`))
			refused(t, api.ErrTwice, 0, "/then", doc("x:/a", `{"if":{"$id":"c","`+one+`":"b"},"then":{"not":{"`+other+`":"b"},"`+one+`":"b"},"`+other+`":"b"}`))
			read(t, doc("x:/a", `{"`+one+`":"b","not":{"$id":"c","`+other+`":"b"}}`), doc("x:/b", `{"`+other+`":"b"}`))
			read(t, doc("x:/a", `{"`+one+`":"b","not":{"`+other+`":"B"},"if":{"`+other+`":"b1"}}`))
		}
	}
	refused(t, api.ErrTwice, 0, "", doc("x:/a", `{"$anchor":"b","$dynamicAnchor":"b"}`))
	refused(t, api.ErrTwice, 0, "/not", doc("x:/a", `{"not":{"$dynamicAnchor":"b","$anchor":"b"}}`))
	read(t, doc("x:/a", `{"$anchor":"b","$dynamicAnchor":"c"}`))
}

// P13.3: the first schema's fault is told, whichever it is; all are at the schema's own place.
func TestFirstTwice(t *testing.T) {
	refused(t, api.ErrTwice, 0, "/allOf/0", doc("x:/a", `{"$anchor":"c","allOf":[{"$anchor":"c"},{"$id":"x:/a"}]}`))
	refused(t, api.ErrTwice, 0, "/allOf/1", doc("x:/a", `{"$anchor":"c","allOf":[{"$id":"b"},{"$id":"b"},{"$anchor":"c"}]}`))
	refused(t, api.ErrTwice, 1, "/not", doc("x:/a", `{"$id":"c"}`), doc("x:/b", `{"$anchor":"c","not":{"$anchor":"c"}}`), doc("x:/c", "true"))
	refused(t, api.ErrTwice, 0, "/allOf/0/not", doc("x:/a", `{"$anchor":"c","allOf":[{"not":{"$anchor":"c"}},{"$anchor":"c"}]}`))
}
