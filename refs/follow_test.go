package refs

import (
	"net/url"
	"reflect"
	"slices"
	"strconv"
	"strings"
	"testing"

	"caliper/api"
	"caliper/bundle"
	"caliper/uri"
)

// chance is a row of numbers that is the same each time.
type chance uint64

func (c *chance) below(n int) int {
	*c = *c*6364136223846793005 + 1442695040888963407
	return int(uint64(*c>>33) % uint64(n))
}

func (c *chance) of(words ...string) string {
	return words[c.below(len(words))]
}

// reference is a reference to a resource or to its anchor d, if it must lead to something; else to whatever.
func (c *chance) reference(leads bool) string {
	if leads {
		return c.of("", "x://h/a") + c.of("", "#", "#d", "#d", "#%64")
	}
	return c.of("", "", "x://h/a", "b", "/c", "//h/b") + c.of("", "#", "#/not", "#/$defs/~0", "#/$defs/a~1b", "#/%24defs/%7E0", "#/allOf/0", "#d", "#e", "#%64", "#f", "#x", "#/x") + c.of("", "", "", "", "", "/", "%ff")
}

// schema is a schema as a text: of keywords that hold schemas, of names, and of references. A resource has the anchor d.
func (c *chance) schema(levels int, resource, leads bool) string {
	if !resource && c.below(6) == 0 {
		return c.of("true", "false", "{}")
	}
	var members []string
	put := func(key, v string) { members = append(members, `"`+key+`":`+v) }
	if resource = resource || c.below(8) == 0; resource {
		put("$id", `"`+c.of("#", "x://h/f/", "y:", "/i/j", "k", "l?m", "n", "o", "p", "q", "r")+`"`)
	}
	if resource || c.below(12) == 0 {
		put("$dynamicAnchor", c.of(`"d"`, `"d"`, `"d"`, `"e"`))
	}
	if c.below(8) == 0 {
		put("$anchor", c.of(`"e"`, `"f"`, `"g"`, `"h"`))
	}
	for _, word := range []string{"$ref", "$dynamicRef"} {
		if c.below(4) == 0 {
			put(word, `"`+c.reference(leads)+`"`)
		}
	}
	if c.below(6) == 0 {
		put("const", `{"$ref":"#x","not":{}}`)
	}
	if levels > 0 {
		c.inner(put, func() string { return c.schema(levels-1, false, leads) })
	}
	for i := range members {
		j := c.below(i + 1)
		members[i], members[j] = members[j], members[i]
	}
	return "{" + strings.Join(members, ",") + "}"
}

// inner puts members that hold schemas.
func (c *chance) inner(put func(string, string), schema func() string) {
	for _, key := range []string{"not", c.of("if", "then", "else"), c.of("items", "contains", "contentSchema"), c.of("unevaluatedItems", "propertyNames", "additionalProperties")} {
		if c.below(4) == 0 {
			put(key, schema())
		}
	}
	for _, key := range []string{"allOf", c.of("anyOf", "oneOf", "prefixItems")} {
		if c.below(4) == 0 {
			put(key, "["+schema()+","+schema()+"]")
		}
	}
	for _, key := range []string{"$defs", c.of("properties", "patternProperties", "dependentSchemas")} {
		if c.below(3) == 0 {
			put(key, `{"`+c.of("~", "not", "$ref")+`":`+schema()+`,"`+c.of("a/b", "", "1")+`":`+schema()+`}`)
		}
	}
}

// tables hands on tables of chance, and how many documents they are of.
func tables(each func(table api.Table, docs int)) {
	c := chance(14)
	for i := range 4000 {
		var docs []api.Doc
		for j := range 1 + c.below(3) {
			docs = append(docs, doc([]string{"x://h/a", "x://h/b", "x://h/c"}[j], c.schema(c.below(4), true, i%2 == 0)))
		}
		if table, fault := bundle.Read(docs); fault.Code == api.OK {
			each(table, len(docs))
		}
	}
}

// holds are the pointers of the schemas that a member holds, by the keywords' rows.
func holds(key string, v api.Value) []string {
	var all []string
	switch {
	case slices.Contains(strings.Fields(oneEach), key):
		return []string{"/" + key}
	case slices.Contains(strings.Fields(inRows), key):
		for i := range v.List {
			all = append(all, "/"+key+"/"+strconv.Itoa(i))
		}
	case slices.Contains(strings.Fields(byNames), key):
		for _, name := range v.Keys {
			all = append(all, "/"+key+"/"+strings.NewReplacer("~", "~0", "/", "~1").Replace(name))
		}
	}
	return all
}

// named tells whether a schema has a dynamic anchor of a name, by its own word.
func named(s api.Schema, name string) bool {
	i := slices.Index(s.V.Keys, "$dynamicAnchor")
	return i >= 0 && s.V.List[i].Text == name
}

// model is what Edges should answer, by the chapter's words: places are asked of the table, anchors of the schemas themselves.
func model(table api.Table) ([]api.Edge, api.Fault) {
	var all []api.Edge
	for n, s := range table.Schemas {
		for i, key := range s.V.Keys {
			for _, sub := range holds(key, s.V.List[i]) {
				to, _ := bundle.At(table, api.Place{Doc: s.At.Doc, Pointer: s.At.Pointer + sub})
				all = append(all, api.Edge{From: n, To: to, Word: key, Same: strings.HasSuffix(mark(key), "=")})
			}
			if key != "$ref" && key != "$dynamicRef" {
				continue
			}
			joined, _ := uri.Join(s.Base, s.V.List[i].Text)
			to, errno := bundle.Find(table, joined)
			if errno != api.OK {
				return nil, api.Fault{Code: api.ErrRef, At: api.Place{Doc: s.At.Doc, Pointer: s.At.Pointer + "/" + key}}
			}
			_, fragment, _ := strings.Cut(s.V.List[i].Text, "#")
			name, _ := url.PathUnescape(fragment)
			if key == "$ref" || !named(table.Schemas[to], name) {
				name = ""
			}
			all = append(all, api.Edge{From: n, To: to, Word: key, Same: true, Dynamic: name})
			for other := range table.Schemas {
				if name != "" && other != to && named(table.Schemas[other], name) {
					all = append(all, api.Edge{From: n, To: other, Word: key, Same: true, Dynamic: name})
				}
			}
		}
	}
	return all, api.Fault{}
}

// P14.2, P14.3: tables of chance have the edges, or the first fault, that the chapter's words say.
func TestAsTheModel(t *testing.T) {
	good, bad, dynamic := 0, 0, 0
	tables(func(table api.Table, _ int) {
		edges, fault := Edges(table)
		want, wrong := model(table)
		if !reflect.DeepEqual(fault, wrong) || !slices.Equal(edges, want) {
			t.Fatalf("%v:\n%v\n%v\nnot\n%v\n%v", table, fault, edges, wrong, want)
		}
		if fault.Code != api.OK {
			bad++
			return
		}
		good++
		for _, e := range edges {
			if e.Dynamic != "" {
				dynamic++
			}
		}
	})
	if good < 500 || bad < 500 || dynamic < 500 {
		t.Error("too few are of use:", good, bad, dynamic)
	}
}

// P14.2, P14.3: the first edge of each reference is its Target, and beside a fault some Target is refused: the first in the members' order.
func TestEdgesAreTargets(t *testing.T) {
	asked := 0
	tables(func(table api.Table, _ int) {
		edges, fault := Edges(table)
		for n, s := range table.Schemas {
			for _, word := range s.V.Keys {
				to, name, errno := Target(table, n, word)
				switch {
				case !isReference(word):
					if errno != api.ErrArg {
						t.Fatal(word, errno)
					}
				case fault.Code != api.OK && errno != api.OK:
					if fault.At != (api.Place{Doc: s.At.Doc, Pointer: s.At.Pointer + "/" + word}) {
						t.Fatal(fault, s.At, word)
					}
					return
				case fault.Code == api.OK:
					i := slices.IndexFunc(edges, func(e api.Edge) bool { return e.From == n && e.Word == word })
					if errno != api.OK || i < 0 || edges[i] != (api.Edge{From: n, To: to, Word: word, Same: true, Dynamic: name}) {
						t.Fatal(n, word, to, name, errno, edges)
					}
					asked++
				}
			}
		}
	})
	if asked < 500 {
		t.Error("too few are of use:", asked)
	}
}

// P14.5: from each document's schema all schemas of the document are reached.
func TestAllIsReached(t *testing.T) {
	reached := 0
	tables(func(table api.Table, docs int) {
		edges, fault := Edges(table)
		if fault.Code != api.OK {
			return
		}
		for number := range docs {
			root, _ := bundle.Root(table, number)
			all := Reach(len(table.Schemas), edges, root)
			for n, s := range table.Schemas {
				if _, in := slices.BinarySearch(all, n); s.At.Doc == number && !in {
					t.Fatalf("%d is not reached from %d: %v", n, root, edges)
				}
			}
			reached += len(all)
		}
	})
	if reached < 3000 {
		t.Error("too few are of use:", reached)
	}
}
