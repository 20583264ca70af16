package bundle

import (
	"net/url"
	"reflect"
	"slices"
	"strconv"
	"strings"
	"testing"

	"caliper/api"
	"caliper/json"
	"caliper/pointer"
	"caliper/value"
)

// chance is a row of numbers that is the same each time.
type chance uint64

func (c *chance) below(n int) int {
	*c = *c*6364136223846793005 + 1442695040888963407
	return int(uint64(*c>>33) % uint64(n))
}

func (c *chance) of(words ...string) string {
	return words[c.below(len(words))]
}

// schema is a schema as a text, of keywords that hold schemas and of those that name them, with some members that look like these and are none.
func (c *chance) schema(levels int) string {
	if c.below(5) == 0 || levels == 0 && c.below(3) == 0 {
		return c.of("true", "false", "{}")
	}
	var members []string
	put := func(key, v string) {
		members = append(members, `"`+key+`":`+v)
	}
	if c.below(4) == 0 {
		put("$id", `"`+c.of("", "#", "a", "b", "c/", "../d", "x://h/e", "y://f/g", "?h", "//i/j", "k#", ".")+`"`)
	}
	if c.below(3) == 0 {
		put("$anchor", `"`+c.of("a", "b", "c", "d", "e", "f", "g")+`"`)
	}
	if c.below(4) == 0 {
		put("$dynamicAnchor", `"`+c.of("a", "b", "c", "d", "e", "f", "g")+`"`)
	}
	if c.below(6) == 0 {
		put(c.of("const", "x", "default"), `{"$id":"b","not":{"$anchor":"a"}}`)
	}
	if levels > 0 {
		c.inner(put, levels-1)
	}
	for i := range members {
		j := c.below(i + 1)
		members[i], members[j] = members[j], members[i]
	}
	return "{" + strings.Join(members, ",") + "}"
}

// inner puts members that hold schemas.
func (c *chance) inner(put func(string, string), levels int) {
	for _, key := range []string{"not", "if", "items"} {
		if c.below(3) == 0 {
			put(key, c.schema(levels))
		}
	}
	for _, key := range []string{"allOf", "prefixItems"} {
		if c.below(4) == 0 {
			put(key, "["+c.schema(levels)+strings.Repeat(","+c.schema(0), c.below(3))+"]")
		}
	}
	for _, key := range []string{"$defs", "properties"} {
		if c.below(3) == 0 {
			put(key, `{"`+c.of("", "~", "not", "$id")+`":`+c.schema(levels)+`,"`+c.of("a/b", "%", "1")+`":`+c.schema(levels)+`}`)
		}
	}
}

// isSchema tells whether a schema stands where parts lead to in a schema.
func isSchema(parts []string) bool {
	if len(parts) == 0 {
		return true
	}
	one := strings.Fields("additionalProperties contains contentSchema else if items not propertyNames then unevaluatedItems unevaluatedProperties")
	several := strings.Fields("allOf anyOf oneOf prefixItems $defs dependentSchemas patternProperties properties")
	if slices.Contains(one, parts[0]) {
		return isSchema(parts[1:])
	}
	return len(parts) > 1 && slices.Contains(several, parts[0]) && isSchema(parts[2:])
}

// model is what Read should answer of documents that have no fault of their own, by the chapter's words: all values' places are asked whether a schema stands there, and what it stands in is looked for among all that came ahead.
func model(docs []api.Doc) (api.Table, api.Fault) {
	var table api.Table
	for i, d := range docs {
		whole, _, _ := json.Parse(d.Data)
		for _, at := range pointer.All(whole) {
			parts, _ := pointer.Parse(at)
			if !isSchema(parts) {
				continue
			}
			n := len(table.Schemas)
			s := api.Schema{At: api.Place{Doc: i, Pointer: at}, Resource: n, Base: d.Uri}
			s.V, _ = pointer.Find(whole, at)
			for _, outer := range table.Schemas {
				if outer.At.Doc == i && strings.HasPrefix(at, outer.At.Pointer+"/") {
					s.Resource, s.Base = outer.Resource, outer.Base
				}
			}
			if id, ok := value.Get(s.V, "$id"); ok {
				s.Resource, s.Base = n, resolved(s.Base, id.Text)
			}
			table.Schemas = append(table.Schemas, s)
		}
	}
	for n, s := range table.Schemas {
		if !named(&table, n, docs[s.At.Doc].Uri) {
			return api.Table{}, api.Fault{Code: api.ErrTwice, At: s.At}
		}
	}
	return table, api.Fault{}
}

// resolved is a reference at a base, as the library resolves it where it has a host, without a fragment.
func resolved(base, s string) string {
	b, _ := url.Parse(base)
	u, _ := b.Parse(s)
	if u.Path == "" && s == "" {
		return base
	}
	u.Fragment = ""
	return u.String()
}

// named puts a schema's Ids and Anchors into a table; false, if one of them is there.
func named(table *api.Table, n int, uri string) bool {
	s := table.Schemas[n]
	var ids []api.Id
	if s.At.Pointer == "" {
		ids = append(ids, api.Id{Uri: uri, Schema: n})
	}
	if _, ok := value.Get(s.V, "$id"); ok {
		ids = append(ids, api.Id{Uri: s.Base, Schema: n})
	}
	ids = slices.Compact(ids) // of a document's value the one is told only if it is another than its Uri
	for _, id := range ids {
		if slices.ContainsFunc(table.Ids, func(other api.Id) bool { return other.Uri == id.Uri }) {
			return false
		}
		table.Ids = append(table.Ids, id)
	}
	for _, word := range []string{"$anchor", "$dynamicAnchor"} {
		name, ok := value.Get(s.V, word)
		if !ok {
			continue
		}
		a := api.Anchor{Resource: s.Resource, Name: name.Text, Schema: n, Dynamic: word == "$dynamicAnchor"}
		if slices.ContainsFunc(table.Anchors, func(other api.Anchor) bool { return other.Resource == a.Resource && other.Name == a.Name }) {
			return false
		}
		table.Anchors = append(table.Anchors, a)
	}
	return true
}

// bundles hands on bundles of chance.
func bundles(each func(docs []api.Doc)) {
	c := chance(13)
	for range 3000 {
		var docs []api.Doc
		for i := range 1 + c.below(3) {
			docs = append(docs, doc([]string{"x://h/a/b", "http://h/p?q", "x://h/e"}[i], c.schema(c.below(4))))
		}
		each(docs)
	}
}

// P13.1 to P13.4: bundles of chance are read as the chapter's words say, place by place.
func TestAsTheModel(t *testing.T) {
	good, bad, anchors := 0, 0, 0
	bundles(func(docs []api.Doc) {
		table, fault := Read(docs)
		want, wrong := model(docs)
		if !reflect.DeepEqual(fault, wrong) || !slices.Equal(lines(table), lines(want)) {
			t.Fatalf("%s:\n%v\n%s\nnot\n%v\n%s", shown(docs), fault, strings.Join(lines(table), "\n"), wrong, strings.Join(lines(want), "\n"))
		}
		if fault.Code != api.OK {
			bad++
			return
		}
		good++
		anchors += len(table.Anchors)
	})
	if good < 500 || bad < 300 || anchors < 300 {
		t.Error("too few are of use:", good, bad, anchors)
	}
}

// P13.6: all that Ids and Anchors name is found, by a URI that the resource has; and every schema by its place, and by a pointer from each resource on that it stands in.
func TestAllIsFound(t *testing.T) {
	pointers := 0
	bundles(func(docs []api.Doc) {
		table, _ := Read(docs)
		for _, id := range table.Ids {
			found(t, table, id.Uri, id.Schema)
			found(t, table, id.Uri+"#", id.Schema)
			for _, a := range table.Anchors {
				if a.Resource == id.Schema {
					found(t, table, id.Uri+"#"+a.Name, a.Schema)
				}
			}
			from := table.Schemas[id.Schema].At
			for n, s := range table.Schemas {
				if rest, in := strings.CutPrefix(s.At.Pointer, from.Pointer); in && s.At.Doc == from.Doc && (rest == "" || rest[0] == '/') {
					found(t, table, id.Uri+"#"+pointer.Escape(rest), n)
					pointers++
				}
			}
		}
		for n, s := range table.Schemas {
			got, e := At(table, s.At)
			asked(t, s.At.Pointer, got, e, n)
		}
		for i := range docs {
			n, e := Root(table, i)
			if len(table.Schemas) > 0 && (e != api.OK || table.Schemas[n].At != api.Place{Doc: i}) {
				t.Error(i, n, e)
			}
		}
	})
	if pointers < 1000 {
		t.Error("too few are of use:", pointers)
	}
}

// P13.6: every resource is found by its base, and every anchor by its resource's.
func TestResourcesAreFound(t *testing.T) {
	inner, anchors := 0, 0
	bundles(func(docs []api.Doc) {
		table, _ := Read(docs)
		for _, s := range table.Schemas {
			found(t, table, s.Base, s.Resource)
			if table.Schemas[s.Resource].At.Pointer != "" {
				inner++
			}
		}
		for _, a := range table.Anchors {
			found(t, table, table.Schemas[a.Schema].Base+"#"+a.Name, a.Schema)
			anchors++
		}
	})
	if inner < 300 || anchors < 300 {
		t.Error("too few are of use:", inner, anchors)
	}
}

// scribble writes over all lists of a value, also behind their ends.
func scribble(v *api.Value) {
	for i := range v.List {
		scribble(&v.List[i])
	}
	for i := range v.List[:cap(v.List)] {
		v.List[:cap(v.List)][i] = api.Value{Kind: api.String, Text: "scribbled"}
	}
	for i := range v.Keys[:cap(v.Keys)] {
		v.Keys[:cap(v.Keys)][i] = "scribbled"
	}
}

// R3: no two schemas' values share lists, though one stands in the other; nor do they with another answer, nor with the documents.
func TestNewMemory(t *testing.T) {
	docs := []api.Doc{doc("x:/a", `{"$anchor":"b","not":{"allOf":[{"enum":[[1],{"c":[2]}]},{"$id":"d","not":{"required":["e"]}}]},"$defs":{"f":{"const":{"g":[3]}}}}`), doc("x:/h", `{"not":{"type":["null"]}}`)}
	whole := read(t, docs...)
	for n := range whole.Schemas {
		table := read(t, docs...)
		scribble(&table.Schemas[n].V)
		for m, s := range table.Schemas {
			if m != n && !reflect.DeepEqual(s, whole.Schemas[m]) {
				t.Errorf("what is done to schema %d is seen in %d", n, m)
			}
		}
	}
	before := lines(whole)
	for i := range docs {
		for j := range docs[i].Data {
			docs[i].Data[j] = 'x'
		}
		docs[i].Uri = "z:"
	}
	if !slices.Equal(lines(whole), before) {
		t.Error("the table hangs on the documents")
	}
}

// R3: what is handed in is not changed.
func TestNothingIsChanged(t *testing.T) {
	docs := []api.Doc{doc("x:/a", `{"not":{"$id":"b","$anchor":"c"}}`), doc("x:/d", " true ")}
	before := []api.Doc{doc("x:/a", `{"not":{"$id":"b","$anchor":"c"}}`), doc("x:/d", " true ")}
	table := read(t, docs...)
	if !reflect.DeepEqual(docs, before) {
		t.Error(docs)
	}
	kept := read(t, before...)
	Find(table, "x:/b#c")
	Find(table, "x:/a#/not")
	At(table, api.Place{Doc: 1})
	Root(table, 1)
	if !reflect.DeepEqual(table, kept) {
		t.Error(lines(table))
	}
}

// R8: the same documents have the same answer.
func TestSameAgain(t *testing.T) {
	bundles(func(docs []api.Doc) {
		one, f := Read(docs)
		other, g := Read(docs)
		if !reflect.DeepEqual(one, other) || !reflect.DeepEqual(f, g) {
			t.Fatal(shown(docs))
		}
	})
}

// R1, P13.1: as deep as a text may be. So many values in one another are more than an answer may have, if each schema has lists of its own.
func TestDeepest(t *testing.T) {
	table := read(t, doc("x:/a", nest("not", api.MaxDepth-1, `{"$anchor":"b"}`)))
	last := table.Schemas[api.MaxDepth-1]
	if len(table.Schemas) != api.MaxDepth || last.At.Pointer != strings.Repeat("/not", api.MaxDepth-1) || value.Size(last.V) != 2 {
		t.Error(len(table.Schemas), len(last.At.Pointer))
	}
	found(t, table, "x:/a#b", api.MaxDepth-1)
	found(t, table, "x:/a#"+last.At.Pointer, api.MaxDepth-1)
	if n := value.Size(table.Schemas[5000].V); n != api.MaxDepth-5000+1 {
		t.Error(n)
	}
}

// R3: values in one another, some hundred levels deep, share nothing.
func TestDeepNewMemory(t *testing.T) {
	levels := 600
	table := read(t, doc("x:/a", nest("not", levels, `{"enum":[1]}`)))
	for n := range levels {
		scribble(&table.Schemas[n].V)
	}
	if text, _ := value.Text(table.Schemas[levels].V); text != `{"enum":[1]}` {
		t.Error(text)
	}
}

// R1: a $id at each level, each on top of the others.
func TestDeepIds(t *testing.T) {
	levels := 1000
	table := read(t, doc("x:/", strings.Repeat(`{"$id":"a/","not":`, levels)+"true"+strings.Repeat("}", levels)))
	if s := table.Schemas[levels]; s.Base != "x:/"+strings.Repeat("a/", levels) || s.Resource != levels-1 || len(table.Ids) != levels+1 {
		t.Error(len(s.Base), s.Resource, len(table.Ids))
	}
}

// P13.1, R1: wide objects and rows, with keys that are no pointers' parts as they stand, each value at its own pointer.
func TestWide(t *testing.T) {
	var text strings.Builder
	text.WriteString(`{"$defs":{`)
	for i := range 5000 {
		text.WriteString(`"/` + strconv.Itoa(i) + `":{"title":"` + strconv.Itoa(i) + `"},`)
	}
	text.WriteString(`"":true},"x":[],"allOf":[true`)
	for i := range 5000 {
		text.WriteString(`,{"title":"` + strconv.Itoa(i) + `"}`)
	}
	text.WriteString(`],"not":{"title":"last"}}`)
	table := read(t, doc("x:/a", text.String()))
	if n := len(table.Schemas); n != 1+5001+5001+1 {
		t.Fatal(n)
	}
	for i := range 5000 {
		titled(t, table.Schemas[1+i], "/$defs/~1"+strconv.Itoa(i), strconv.Itoa(i))
		titled(t, table.Schemas[5003+i], "/allOf/"+strconv.Itoa(i+1), strconv.Itoa(i))
	}
	titled(t, table.Schemas[10003], "/not", "last")
}

func titled(t *testing.T, s api.Schema, at, title string) {
	t.Helper()
	if v, _ := value.Get(s.V, "title"); s.At.Pointer != at || v.Text != title {
		t.Errorf("%q at %s, not %q at %s", v.Text, s.At.Pointer, title, at)
	}
}

// listOf is an array that holds a value so many times.
func listOf(n int, v api.Value) api.Value {
	return api.Value{Kind: api.Array, List: slices.Repeat([]api.Value{v}, n)}
}

// R3: copies are made up to as many values as an answer may have, and not one more.
func TestMostValues(t *testing.T) {
	leaf := api.Value{Kind: api.True}
	large := listOf(4095, listOf(4095, leaf))
	r := reading{Table: api.Table{Schemas: []api.Schema{{V: large}}}}
	for range mostValues - value.Size(large) {
		r.Schemas = append(r.Schemas, api.Schema{V: leaf})
	}
	if len(r.Schemas) != 4096 || r.isTooMuch() {
		t.Error(len(r.Schemas))
	}
	r.Schemas = append(r.Schemas, api.Schema{V: leaf})
	if !r.isTooMuch() {
		t.Error("one more is not too much")
	}
}
