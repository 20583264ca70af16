package shape

import (
	"slices"
	"strconv"
	"strings"
	"testing"

	"caliper/api"
	"caliper/json"
	"caliper/value"
)

// read reads a value.
func read(t *testing.T, s string) api.Value {
	t.Helper()
	v, at, e := json.Parse([]byte(s))
	if e != api.OK {
		t.Fatal(s, at, e)
	}
	return v
}

// checked asks for what Check answers.
func checked(t *testing.T, s string, want string, code api.Errno) {
	t.Helper()
	if at, e := Check(read(t, s)); at != want || e != code {
		t.Errorf("Check(%s): %q, %d, not %q, %d", s, at, e, want, code)
	}
}

// subs asks for what Subs answers.
func subs(t *testing.T, s string, want ...string) {
	t.Helper()
	if l := Subs(read(t, s)); !slices.Equal(l, want) {
		t.Errorf("Subs(%s): %q, not %q", s, l, want)
	}
}

// keyRow is a row of the chapter's table: its keys, those of samples that they take, and those that are refused otherwise than by ErrShape at the member's value.
type keyRow struct {
	keys  string
	takes []string
	apart map[string]wrong
}

// samples are values of all kinds, at the edges of what some key asks for.
func samples() []string {
	return []string{
		`null`, `true`, `false`,
		`0`, `-0.0`, `1`, `-1`, `1.5`, `15e-1`, `10e-1`, `-10e-1`, `2.0`, `1e3`, `-1e3`, `1e-1000000`, `-1e-1000000`, `1e1000000`, `1000000001`,
		`""`, `"a"`, `"string"`, `"integer"`, `"9a"`, `"("`, `"x:/a"`, `"x:/a#"`, `"x:/a#b"`, `"#"`, `"#b"`, `"a b"`, `"é"`,
		`[]`, `[true]`, `[false,{}]`, `["a"]`, `["string"]`, `["string","null"]`, `["string","string"]`, `["a","a"]`, `["a","b","a"]`, `["a",1]`, `[1]`, `[1,1]`, `[{}]`, `[[]]`, `[null]`, `[true,[]]`,
		`{}`, `{"a":true}`, `{"a":1}`, `{"a":[]}`, `{"a":["b"]}`, `{"a":["b","b"]}`, `{"a":["b"],"b":["b","a"]}`, `{"a":["b"],"b":["b",1]}`, `{"a":{},"b":{}}`, `{"a":{},"b":null}`,
		`{"(":true}`, `{"(":1}`, `{"a":1,"(":1}`, `{"x:/a":false}`, `{"x:/a":true}`, `{"x:/a":1}`, `{"x:/a":[]}`, `{"x:/a#":false}`, `{"x:/a":true,"b":true}`,
		`{"https://json-schema.org/draft/2020-12/vocab/core":true}`,
	}
}

// shapeAt is ErrShape below the member's value.
func shapeAt(at string) wrong { return wrong{at: at, code: api.ErrShape} }

func rxAt(at string) wrong { return wrong{at: at, code: api.ErrRx} }

// objects are the samples that are objects.
func objects() []string {
	return slices.DeleteFunc(samples(), func(s string) bool { return s[0] != '{' })
}

// without is a list without some.
func without(l []string, some ...string) []string {
	return slices.DeleteFunc(l, func(s string) bool { return slices.Contains(some, s) })
}

func keyRows() []keyRow {
	noSchemas := map[string]wrong{
		`{"a":1}`: shapeAt("/a"), `{"a":[]}`: shapeAt("/a"), `{"a":["b"]}`: shapeAt("/a"), `{"a":["b","b"]}`: shapeAt("/a"), `{"a":["b"],"b":["b","a"]}`: shapeAt("/a"), `{"a":["b"],"b":["b",1]}`: shapeAt("/a"), `{"a":{},"b":null}`: shapeAt("/b"),
		`{"(":1}`: shapeAt("/("), `{"a":1,"(":1}`: shapeAt("/a"), `{"x:/a":1}`: shapeAt("/x:~1a"), `{"x:/a":[]}`: shapeAt("/x:~1a"),
	}
	noPatterns := map[string]wrong{`{"(":true}`: rxAt("/("), `{"(":1}`: rxAt("/("), `{"a":1,"(":1}`: rxAt("/(")}
	for s, w := range noSchemas {
		if _, ok := noPatterns[s]; !ok {
			noPatterns[s] = w
		}
	}
	bySchema := []string{`{}`, `{"a":true}`, `{"a":{},"b":{}}`, `{"x:/a":false}`, `{"x:/a":true}`, `{"x:/a#":false}`, `{"x:/a":true,"b":true}`, `{"https://json-schema.org/draft/2020-12/vocab/core":true}`}
	strs := slices.DeleteFunc(samples(), func(s string) bool { return s[0] != '"' })
	arrays := slices.DeleteFunc(samples(), func(s string) bool { return s[0] != '[' })
	numbers := slices.DeleteFunc(samples(), func(s string) bool { return !strings.Contains("-0123456789", s[:1]) })
	return []keyRow{
		{"additionalProperties contains contentSchema else if items not propertyNames then unevaluatedItems unevaluatedProperties",
			append(objects(), `true`, `false`), nil},
		{"allOf anyOf oneOf prefixItems", []string{`[true]`, `[false,{}]`, `[{}]`}, map[string]wrong{
			`["a"]`: shapeAt("/0"), `["string"]`: shapeAt("/0"), `["string","null"]`: shapeAt("/0"), `["string","string"]`: shapeAt("/0"), `["a","a"]`: shapeAt("/0"), `["a","b","a"]`: shapeAt("/0"), `["a",1]`: shapeAt("/0"),
			`[1]`: shapeAt("/0"), `[1,1]`: shapeAt("/0"), `[[]]`: shapeAt("/0"), `[null]`: shapeAt("/0"), `[true,[]]`: shapeAt("/1")}},
		{"$defs dependentSchemas properties", append(slices.Clone(bySchema), `{"(":true}`), noSchemas},
		{"patternProperties", bySchema, noPatterns},
		{"$id", []string{`""`, `"a"`, `"string"`, `"integer"`, `"9a"`, `"("`, `"x:/a"`, `"x:/a#"`, `"#"`}, nil},
		{"$ref $dynamicRef", []string{`""`, `"a"`, `"string"`, `"integer"`, `"9a"`, `"("`, `"x:/a"`, `"x:/a#"`, `"x:/a#b"`, `"#"`, `"#b"`}, nil},
		{"$schema", []string{`"x:/a"`}, nil},
		{"$anchor $dynamicAnchor", []string{`"a"`, `"string"`, `"integer"`}, nil},
		{"$vocabulary", []string{`{}`, `{"x:/a":false}`, `{"https://json-schema.org/draft/2020-12/vocab/core":true}`}, map[string]wrong{
			`{"x:/a":true}`: {code: api.ErrVocab}}},
		{"$comment contentEncoding contentMediaType description format title", strs, nil},
		{"deprecated readOnly uniqueItems writeOnly", []string{`true`, `false`}, nil},
		{"enum examples", arrays, nil},
		{"type", []string{`"string"`, `"integer"`, `["string"]`, `["string","null"]`}, nil},
		{"exclusiveMaximum exclusiveMinimum maximum minimum", numbers, nil},
		{"multipleOf", []string{`1`, `1.5`, `15e-1`, `10e-1`, `2.0`, `1e3`, `1e-1000000`, `1e1000000`, `1000000001`}, nil},
		{"maxContains maxItems maxLength maxProperties minContains minItems minLength minProperties",
			[]string{`0`, `-0.0`, `1`, `10e-1`, `2.0`, `1e3`, `1e1000000`, `1000000001`}, nil},
		{"pattern", without(slices.Clone(strs), `"("`), map[string]wrong{`"("`: rxAt("")}},
		{"required", []string{`[]`, `["a"]`, `["string"]`, `["string","null"]`}, nil},
		{"dependentRequired", []string{`{}`, `{"a":[]}`, `{"a":["b"]}`, `{"a":["b"],"b":["b","a"]}`, `{"x:/a":[]}`}, nil},
		{"const default", samples(), nil},
		{"a not_ Not nots allof $Id id $recursiveRef $recursiveAnchor definitions dependencies additionalItems divisibleBy ( ~ / é", samples(), nil},
	}
}

// P12.1, P12.2: every key of the table, and some that are none of it, with what it may hold and with what it may not; by itself and further in.
func TestKeys(t *testing.T) {
	seen := 0
	for _, row := range keyRows() {
		for _, key := range strings.Fields(row.keys) {
			seen++
			for _, s := range samples() {
				want, ok := row.apart[s]
				if !ok && !slices.Contains(row.takes, s) {
					want.code = api.ErrShape
				}
				if want.code != api.OK {
					want.at = "/" + escaped(key) + want.at
				}
				schema := `{"` + key + `":` + s + `}`
				checked(t, schema, want.at, want.code)
				checked(t, `{"x":{"`+key+`":`+s+`},"`+key+`":`+s+`}`, want.at, want.code)
				if want.code != api.OK {
					want.at = "/anyOf/1/$defs/a~1b" + want.at
				}
				checked(t, `{"type":"null","anyOf":[true,{"title":"x","$defs":{"":{},"a/b":`+schema+`}}],"minimum":"behind"}`, orBehind(want).at, orBehind(want).code)
			}
		}
	}
	if seen != 55+2+17 {
		t.Errorf("%d keys", seen)
	}
}

// orBehind is what is told where a fault stands behind: that one, if there is none ahead.
func orBehind(w wrong) wrong {
	if w.code == api.OK {
		return shapeAt("/minimum")
	}
	return w
}

// P12.1, P12.2: the chapter's examples.
func TestExamples(t *testing.T) {
	checked(t, `{"items":[]}`, "/items", api.ErrShape)
	checked(t, `{"allOf":[true,1]}`, "/allOf/1", api.ErrShape)
	checked(t, `{"pattern":"("}`, "/pattern", api.ErrRx)
	subs(t, `{"not":true,"properties":{"a":{}}}`, "/not", "/properties/a")
}

// P12.1, P12.2: what stands in a schema's place.
func TestSchemaItself(t *testing.T) {
	for _, s := range []string{`true`, `false`, `{}`, `{"a":1}`} {
		checked(t, s, "", api.OK)
	}
	for _, s := range []string{`null`, `0`, `1`, `1.5`, `""`, `"true"`, `"a"`, `[]`, `[true]`, `[{}]`, `[{"type":"x"}]`} {
		checked(t, s, "", api.ErrShape)
		checked(t, `{"not":`+s+`}`, "/not", api.ErrShape)
		checked(t, `{"not":{"if":`+s+`}}`, "/not/if", api.ErrShape)
		checked(t, `{"allOf":[`+s+`]}`, "/allOf/0", api.ErrShape)
		checked(t, `{"allOf":[true,{},{"anyOf":[false,`+s+`]},1]}`, "/allOf/2/anyOf/1", api.ErrShape)
		checked(t, `{"$defs":{"":`+s+`}}`, "/$defs/", api.ErrShape)
		checked(t, `{"patternProperties":{"^a$":true,"b":`+s+`}}`, "/patternProperties/b", api.ErrShape)
	}
}

// P12.1: $id, $ref and $schema at the fragments' edges, and with texts that are no references.
func TestReferences(t *testing.T) {
	for _, c := range []struct {
		s               string
		id, ref, schema bool
	}{
		{"x:/a", true, true, true},
		{"x:", true, true, true},
		{"x:/a?b", true, true, true},
		{"https://json-schema.org/draft/2020-12/schema", true, true, true},
		{"x:/a#", true, true, false},
		{"https://json-schema.org/draft/2020-12/schema#", true, true, false},
		{"x:/a#b", false, true, false},
		{"x:/a#/", false, true, false},
		{"x:/a#?", false, true, false},
		{"x:/a#%41", false, true, false},
		{"#", true, true, false},
		{"#a", false, true, false},
		{"", true, true, false},
		{"a", true, true, false},
		{"../a", true, true, false},
		{"/a", true, true, false},
		{"//a/b", true, true, false},
		{"?q", true, true, false},
		{"?q#", true, true, false},
		{"a%20b", true, true, false},
		{"%4x", false, false, false},
		{"%", false, false, false},
		{"a b", false, false, false},
		{"x:/a b", false, false, false},
		{"é", false, false, false},
		{"9x:/a", false, false, false},
		{":a", false, false, false},
		{"x:/a##", false, false, false},
		{"x:/a#é", false, false, false},
		{"<a>", false, false, false},
		{"x:/\\\\", false, false, false},
	} {
		for key, ok := range map[string]bool{"$id": c.id, "$ref": c.ref, "$dynamicRef": c.ref, "$schema": c.schema} {
			want, code := "", api.OK
			if !ok {
				want, code = "/"+key, api.ErrShape
			}
			checked(t, `{"`+key+`":"`+c.s+`"}`, want, code)
		}
	}
}

// P12.1: type as a string and as an array.
func TestType(t *testing.T) {
	types := []string{"array", "boolean", "integer", "null", "number", "object", "string"}
	for i, a := range types {
		checked(t, `{"type":"`+a+`"}`, "", api.OK)
		checked(t, `{"type":["`+a+`"]}`, "", api.OK)
		for j, b := range types {
			want, code := "", api.OK
			if i == j {
				want, code = "/type", api.ErrShape
			}
			checked(t, `{"type":["`+a+`","`+b+`"]}`, want, code)
		}
		checked(t, `{"type":["`+a+`","`+types[(i+1)%7]+`","`+a+`"]}`, "/type", api.ErrShape)
		checked(t, `{"type":"`+a+` "}`, "/type", api.ErrShape)
		checked(t, `{"type":"`+strings.ToUpper(a)+`"}`, "/type", api.ErrShape)
		checked(t, `{"type":["`+a+`","`+a+`s"]}`, "/type", api.ErrShape)
		checked(t, `{"type":["x","`+a+`"]}`, "/type", api.ErrShape)
		checked(t, `{"type":[["`+a+`"]]}`, "/type", api.ErrShape)
		checked(t, `{"type":{"a":"`+a+`"}}`, "/type", api.ErrShape)
	}
	checked(t, `{"type":["`+strings.Join(types, `","`)+`"]}`, "", api.OK)
	for _, s := range []string{`[]`, `""`, `[""]`, `["string",1]`, `[null]`, `["any"]`, `"any"`, `null`, `{}`, `{"string":"string"}`} {
		checked(t, `{"type":`+s+`}`, "/type", api.ErrShape)
	}
}

// P12.1: whole numbers from 0 on, and numbers above 0.
func TestNumbers(t *testing.T) {
	for _, c := range []struct {
		s            string
		count, above bool
	}{
		{`0`, true, false}, {`-0`, true, false}, {`0.0`, true, false}, {`0e5`, true, false}, {`-0e-5`, true, false},
		{`1`, true, true}, {`1.0`, true, true}, {`1.000`, true, true}, {`100e-2`, true, true}, {`1e2`, true, true}, {`1.5e1`, true, true}, {`0.5e1`, true, true}, {`1E+1000000`, true, true},
		{`1000000000`, true, true}, {`1000000001`, true, true}, {`1e9`, true, true}, {`1e10`, true, true}, {`99999999999999999999999`, true, true},
		{`-1`, false, false}, {`-1.0`, false, false}, {`-1e2`, false, false}, {`-10e-1`, false, false}, {`-1e1000000`, false, false},
		{`0.5`, false, true}, {`1.5`, false, true}, {`1e-1`, false, true}, {`100e-3`, false, true}, {`1e-1000000`, false, true}, {`1000000000.5`, false, true}, {`-0.5`, false, false}, {`-1e-1000000`, false, false},
	} {
		for key, ok := range map[string]bool{"maxItems": c.count, "minLength": c.count, "minContains": c.count, "multipleOf": c.above, "maximum": true, "exclusiveMinimum": true} {
			want, code := "", api.OK
			if !ok {
				want, code = "/"+key, api.ErrShape
			}
			checked(t, `{"`+key+`":`+c.s+`}`, want, code)
		}
	}
}

// P12.1: arrays of strings, no two alike.
func TestRequired(t *testing.T) {
	for s, ok := range map[string]bool{
		`[]`: true, `[""]`: true, `["a","b","c"]`: true, `["a","A"]`: true, `["a","a "]`: true, `["","a"]`: true, `["é","e\u0301"]`: true,
		`["a","a"]`: false, `["",""]`: false, `["a","b","a"]`: false, `["b","a","a"]`: false, `["é","\u00e9"]`: false, `["/","\/"]`: false,
		`[null]`: false, `["a",null]`: false, `[["a"]]`: false, `[1]`: false, `["a",{}]`: false, `[true]`: false,
		`"a"`: false, `null`: false, `{}`: false, `{"a":"a"}`: false, `true`: false, `1`: false,
	} {
		want, deep, code := "", "", api.OK
		if !ok {
			want, deep, code = "/required", "/dependentRequired", api.ErrShape
		}
		checked(t, `{"required":`+s+`}`, want, code)
		checked(t, `{"dependentRequired":{"x":`+s+`}}`, deep, code)
		checked(t, `{"dependentRequired":{"x":["x"],"":[],"y":`+s+`}}`, deep, code)
		checked(t, `{"dependentRequired":{"y":`+s+`,"x":["x"]}}`, deep, code)
	}
	for _, s := range []string{`[]`, `[["a"]]`, `null`, `"a"`, `true`, `0`} {
		checked(t, `{"dependentRequired":`+s+`}`, "/dependentRequired", api.ErrShape)
	}
	checked(t, `{"dependentRequired":{}}`, "", api.OK)
	checked(t, `{"dependentRequired":{"a":["c"],"b":["c"]}}`, "", api.OK)
}

// P12.1, P12.2: $vocabulary: what is as it must be, what is known, and which fault is told.
func TestVocabulary(t *testing.T) {
	const begin = "https://json-schema.org/draft/2020-12/vocab/"
	known := []string{"applicator", "content", "core", "format-annotation", "meta-data", "unevaluated", "validation"}
	all := `"x:/a":false`
	for _, name := range known {
		checked(t, `{"$vocabulary":{"`+begin+name+`":true}}`, "", api.OK)
		checked(t, `{"$vocabulary":{"`+begin+name+`":false}}`, "", api.OK)
		for _, unknown := range []string{begin + name + "s", begin + name + "/", begin + name + "?", "http" + begin[5:] + name, strings.ToUpper(begin[:8]) + begin[8:] + name, "x:" + name, begin[:len(begin)-1] + name, begin + "/" + name, begin + strings.ToUpper(name)} {
			checked(t, `{"$vocabulary":{"`+unknown+`":true}}`, "/$vocabulary", api.ErrVocab)
			checked(t, `{"$vocabulary":{"`+unknown+`":false}}`, "", api.OK)
			checked(t, `{"$vocabulary":{"`+begin+name+`":true,"`+unknown+`":true}}`, "/$vocabulary", api.ErrVocab)
			checked(t, `{"$vocabulary":{"`+unknown+`":true,"`+begin+name+`":true}}`, "/$vocabulary", api.ErrVocab)
		}
		for _, none := range []string{name, begin + name + "#", begin + name + "#a", begin + name + " ", "/" + name, ""} {
			for _, flag := range []string{"true", "false"} {
				checked(t, `{"$vocabulary":{"`+none+`":`+flag+`}}`, "/$vocabulary", api.ErrShape)
			}
		}
		all += `,"` + begin + name + `":true`
	}
	checked(t, `{"$vocabulary":{`+all+`}}`, "", api.OK)
	for _, name := range []string{"format-assertion", "format", "", "hyper-schema"} {
		checked(t, `{"$vocabulary":{"`+begin+name+`":true}}`, "/$vocabulary", api.ErrVocab)
	}
	for _, flag := range []string{`null`, `0`, `1`, `"true"`, `[]`, `{}`} {
		checked(t, `{"$vocabulary":{"`+begin+`core":`+flag+`}}`, "/$vocabulary", api.ErrShape)
		checked(t, `{"$vocabulary":{"x:/a":true,"x:/b":`+flag+`}}`, "/$vocabulary", api.ErrShape)
	}
	checked(t, `{"$vocabulary":{"x:/a":true,"b":false}}`, "/$vocabulary", api.ErrShape)
	checked(t, `{"$vocabulary":{"b":false,"x:/a":true}}`, "/$vocabulary", api.ErrShape)
	checked(t, `{"items":{"$vocabulary":{"x:/a":true}}}`, "/items/$vocabulary", api.ErrVocab)
	checked(t, `{"$vocabulary":{"x:/a":true},"type":1}`, "/$vocabulary", api.ErrVocab)
	checked(t, `{"type":1,"$vocabulary":{"x:/a":true}}`, "/type", api.ErrShape)
	checked(t, `{"$vocabulary":{"x:/a":true},"pattern":"("}`, "/$vocabulary", api.ErrVocab)
	checked(t, `{"a":{"$vocabulary":{"x:/a":true}}}`, "", api.OK)
}

// P12.1, P12.2: patterns, as texts and as keys.
func TestPatterns(t *testing.T) {
	for s, ok := range map[string]bool{
		``: true, `a`: true, `^a|b*$`: true, `\\d{1,1000}`: true, `é`: true, `\u0000`: true, `[^]`: true, `a/b`: true,
		`(`: false, `)`: false, `a**`: false, `[`: false, `]`: false, `\\1`: false, `(?=a)`: false, `a{2,1}`: false, `a{1001}`: false, `\\`: false, `~(`: false, `/(`: false,
		strings.Repeat("a", api.MaxPattern): true, strings.Repeat("a", api.MaxPattern+1): false,
	} {
		want, deep, code := "", "", api.OK
		if !ok {
			want, deep, code = "/pattern", "/patternProperties/"+escaped(strings.ReplaceAll(s, `\\`, `\`)), api.ErrRx
		}
		checked(t, `{"pattern":"`+s+`"}`, want, code)
		checked(t, `{"patternProperties":{"`+s+`":true}}`, deep, code)
		checked(t, `{"patternProperties":{"b":true,"`+s+`":{}}}`, deep, code)
	}
}

// P12.2: which fault comes first.
func TestFirst(t *testing.T) {
	for _, c := range []struct {
		s, at string
		code  api.Errno
	}{
		// Members stand in their order, whatever they ask for.
		{`{"type":1,"pattern":"("}`, "/type", api.ErrShape},
		{`{"pattern":"(","type":1}`, "/pattern", api.ErrRx},
		{`{"minimum":"a","maximum":"a"}`, "/minimum", api.ErrShape},
		{`{"maximum":"a","minimum":"a"}`, "/maximum", api.ErrShape},
		// What is deep in a member stands ahead of the next member.
		{`{"not":{"not":{"not":1}},"type":1}`, "/not/not/not", api.ErrShape},
		{`{"not":{"not":{"not":1},"type":1},"type":1}`, "/not/not/not", api.ErrShape},
		{`{"not":{"not":{"not":true},"type":1},"type":1}`, "/not/type", api.ErrShape},
		{`{"type":1,"not":{"not":1}}`, "/type", api.ErrShape},
		{`{"items":{"pattern":"["},"allOf":[]}`, "/items/pattern", api.ErrRx},
		{`{"allOf":[],"items":{"pattern":"["}}`, "/allOf", api.ErrShape},
		// Schemas in a member stand in their order, each with all that is in it.
		{`{"allOf":[{"not":1},2]}`, "/allOf/0/not", api.ErrShape},
		{`{"allOf":[true,{"anyOf":[{"pattern":"("}]},2]}`, "/allOf/1/anyOf/0/pattern", api.ErrRx},
		{`{"allOf":[2,{"not":1}]}`, "/allOf/0", api.ErrShape},
		{`{"properties":{"b":{"type":1},"a":1}}`, "/properties/b/type", api.ErrShape},
		{`{"properties":{"a":1,"b":{"type":1}}}`, "/properties/a", api.ErrShape},
		{`{"properties":{"b":1,"a":1}}`, "/properties/b", api.ErrShape},
		// A member's own form stands ahead of the schemas in it.
		{`{"patternProperties":{"a":1,"(":true}}`, "/patternProperties/(", api.ErrRx},
		{`{"patternProperties":{"(":true,"a":1}}`, "/patternProperties/(", api.ErrRx},
		{`{"patternProperties":{"a":{"type":1},"b":true,"(":true}}`, "/patternProperties/(", api.ErrRx},
		{`{"patternProperties":{"(":1}}`, "/patternProperties/(", api.ErrRx},
		{`{"patternProperties":{"a":true,")":true,"(":true}}`, "/patternProperties/)", api.ErrRx},
		{`{"patternProperties":{"a":{"patternProperties":{"[":true}},"b":1}}`, "/patternProperties/a/patternProperties/[", api.ErrRx},
		{`{"patternProperties":{"a":{"patternProperties":{"[":true}},"(":1}}`, "/patternProperties/(", api.ErrRx},
		{`{"patternProperties":{"a":1},"pattern":"("}`, "/patternProperties/a", api.ErrShape},
		{`{"patternProperties":[{"(":1}]}`, "/patternProperties", api.ErrShape},
		// The value that should be a schema stands ahead of all else of it.
		{`[{"type":1}]`, "", api.ErrShape},
		{`{"not":[{"type":1}]}`, "/not", api.ErrShape},
		// What should be no schema is not gone into.
		{`{"const":{"type":1},"enum":[{"type":1}],"default":{"not":1},"examples":[{"pattern":"("}],"x":{"type":1}}`, "", api.OK},
		{`{"const":{"type":1},"enum":[{"type":1}],"items":{"not":1}}`, "/items/not", api.ErrShape},
		{`{"required":["a","a"],"dependentRequired":[]}`, "/required", api.ErrShape},
		{`{"dependentRequired":{"a":[],"type":1}}`, "/dependentRequired", api.ErrShape},
		// Keywords' names are no keywords where they are names.
		{`{"properties":{"type":{"type":"string"},"pattern":{"pattern":"a"},"allOf":true}}`, "", api.OK},
		{`{"properties":{"type":"string"}}`, "/properties/type", api.ErrShape},
		{`{"$defs":{"allOf":{"allOf":[true]},"$id":false}}`, "", api.OK},
	} {
		checked(t, c.s, c.at, c.code)
	}
}

// P12.2, P12.3: pointers whose parts hold ~ and /.
func TestPointersParts(t *testing.T) {
	checked(t, `{"properties":{"~":{"$defs":{"/":{"dependentSchemas":{"~1/~0":{"allOf":[true,{"":1,"type":1}]}}}}}}}`, "/properties/~0/$defs/~1/dependentSchemas/~01~1~00/allOf/1/type", api.ErrShape)
	checked(t, `{"patternProperties":{"/~":{"pattern":"("}}}`, "/patternProperties/~1~0/pattern", api.ErrRx)
	checked(t, `{"properties":{"":{"properties":{"":1}}}}`, "/properties//properties/", api.ErrShape)
	checked(t, `{"properties":{"é%20\"\\":null}}`, `/properties/é%20"\`, api.ErrShape)
	subs(t, `{"properties":{"~":true,"/":true,"~1":true,"":true,"a/b~c":{},"é":{},"%":{}}}`, "/properties/~0", "/properties/~1", "/properties/~01", "/properties/", "/properties/a~1b~0c", "/properties/é", "/properties/%")
}

// P12.3: Subs: what a member holds, of every key with every sample; between others.
func TestSubs(t *testing.T) {
	for _, row := range keyRows() {
		for _, key := range strings.Fields(row.keys) {
			for _, s := range samples() {
				want := held(key, read(t, s))
				subs(t, `{"`+key+`":`+s+`}`, want...)
				if key == "then" || key == "$defs" {
					continue
				}
				subs(t, `{"then":{"if":{}},"`+key+`":`+s+`,"$defs":{"b":true,"a":{}}}`, slices.Concat([]string{"/then"}, want, []string{"/$defs/b", "/$defs/a"})...)
			}
		}
	}
}

// held are the pointers of what should be schemas in a member, as the table's first three rows say.
func held(key string, v api.Value) []string {
	pointers := []string{}
	words := strings.Fields
	switch {
	case slices.Contains(words("additionalProperties contains contentSchema else if items not propertyNames then unevaluatedItems unevaluatedProperties"), key):
		pointers = append(pointers, "/"+key)
	case slices.Contains(words("allOf anyOf oneOf prefixItems"), key) && v.Kind == api.Array:
		for i := range v.List {
			pointers = append(pointers, "/"+key+"/"+strconv.Itoa(i))
		}
	case slices.Contains(words("$defs dependentSchemas patternProperties properties"), key) && v.Kind == api.Object:
		for _, k := range v.Keys {
			pointers = append(pointers, "/"+key+"/"+escaped(k))
		}
	}
	return pointers
}

// escaped is a pointer's part.
func escaped(s string) string {
	return strings.NewReplacer("~", "~0", "/", "~1").Replace(s)
}

// P12.3: Subs of values that are no schemas, of members that hold no array or object as they should, and of what is deeper.
func TestSubsOfOthers(t *testing.T) {
	for _, s := range []string{`true`, `false`, `null`, `0`, `""`, `"not"`, `[]`, `[{"not":true}]`, `{}`, `{"a":{"not":true}}`, `{"const":{"not":true},"default":{"not":{}},"enum":[{}],"examples":[{}]}`} {
		subs(t, s)
	}
	subs(t, `{"allOf":{"a":true},"anyOf":true,"oneOf":null,"prefixItems":"a"}`)
	subs(t, `{"properties":[true],"$defs":true,"patternProperties":1,"dependentSchemas":"a"}`)
	subs(t, `{"dependentRequired":{"a":["b"]},"required":["a"],"$vocabulary":{"x:/a":false},"type":["null"]}`)
	subs(t, `{"allOf":{},"not":{},"properties":[{}],"if":{},"anyOf":[{},{"not":{}}]}`, "/not", "/if", "/anyOf/0", "/anyOf/1")
	subs(t, `{"allOf":[true,1,[]],"properties":{"a":1,"b":{}}}`, "/allOf/0", "/allOf/1", "/allOf/2", "/properties/a", "/properties/b")
	subs(t, `{"type":1,"items":{"items":{"items":{}}}}`, "/items")
	subs(t, `{"prefixItems":[{},{},{},{},{},{},{},{},{},{},{},{}]}`, "/prefixItems/0", "/prefixItems/1", "/prefixItems/2", "/prefixItems/3", "/prefixItems/4", "/prefixItems/5", "/prefixItems/6", "/prefixItems/7", "/prefixItems/8", "/prefixItems/9", "/prefixItems/10", "/prefixItems/11")
}

// P12.3: Same of all keys.
func TestSame(t *testing.T) {
	same := strings.Fields("$ref $dynamicRef allOf anyOf dependentSchemas else if not oneOf then")
	for _, row := range keyRows() {
		for _, key := range strings.Fields(row.keys) {
			if Same(key) != slices.Contains(same, key) {
				t.Errorf("Same(%q): %v", key, Same(key))
			}
		}
	}
	for _, key := range same {
		if !Same(key) {
			t.Errorf("Same(%q): no", key)
		}
		for _, other := range []string{key + " ", " " + key, key[1:], key[:len(key)-1], strings.ToUpper(key), "$" + key, key + "\x00"} {
			if Same(other) {
				t.Errorf("Same(%q): yes", other)
			}
		}
	}
	for _, key := range []string{"", "$", "ref", "dynamicRef", "$recursiveRef", "\xff", "all of"} {
		if Same(key) {
			t.Errorf("Same(%q): yes", key)
		}
	}
}

// P12.1: Name, with every byte at the beginning and behind it.
func TestName(t *testing.T) {
	const letters = "abcdefghijklmnopqrstuvwxyzABCDEFGHIJKLMNOPQRSTUVWXYZ"
	for c := range 256 {
		sign := string([]byte{byte(c)})
		begins := strings.Contains(letters+"_", sign)
		if Name(sign) != begins || Name(sign+"a") != begins {
			t.Errorf("Name(%q): %v, with a behind it %v", sign, Name(sign), Name(sign+"a"))
		}
		goesOn := strings.Contains(letters+"0123456789-_.", sign)
		if Name("a"+sign) != goesOn || Name("_b"+sign+"c") != goesOn {
			t.Errorf("Name(a%q): %v, _b%qc: %v", sign, Name("a"+sign), sign, Name("_b"+sign+"c"))
		}
	}
	for s, want := range map[string]bool{
		"": false, "a": true, "_": true, "__": true, "A-_.9": true, "a-": true, "a.": true, "z9Z": true,
		"é": false, "aé": false, "a b": false, "a:b": false, "a/b": false, "#a": false, "a\n": false, "\xff": false, "-a": false, ".a": false, "9": false, "a%20": false, "\u017f": false, "\u212a": false,
		strings.Repeat("a", 100000): true, strings.Repeat("a", 100000) + " ": false,
	} {
		if Name(s) != want {
			t.Errorf("Name(%q): %v", s, !want)
		}
	}
}

// P12.3: Count of numbers and of others.
func TestCount(t *testing.T) {
	for s, want := range map[string]int{
		`0`: 0, `-0`: 0, `0.0e7`: 0, `1`: 1, `1.0`: 1, `10e-1`: 1, `1.5e1`: 15, `7`: 7, `42`: 42, `1e3`: 1000, `100000`: 100000,
		`999999999`: 999999999, `1000000000`: 1000000000, `1e9`: 1000000000, `1000000001`: 1000000000, `1e10`: 1000000000, `9999999999`: 1000000000, `10000000000`: 1000000000, `123456789012345678901234567890`: 1000000000, `18446744073709551616`: 1000000000, `18446744073709551617`: 1000000000, `1e1000000`: 1000000000,
		`-1`: -1, `-2`: -1, `-1e9`: -1, `-1000000001`: -1, `0.5`: -1, `1.5`: -1, `-1.5`: -1, `1e-1`: -1, `1000000000.5`: -1, `1e-1000000`: -1, `999999999.9`: -1,
		`null`: -1, `true`: -1, `false`: -1, `""`: -1, `"1"`: -1, `[]`: -1, `[1]`: -1, `{}`: -1, `{"a":1}`: -1,
	} {
		if n := Count(read(t, s)); n != want {
			t.Errorf("Count(%s): %d, not %d", s, n, want)
		}
	}
	for _, v := range []api.Value{
		{Kind: api.String, Num: api.Dec{Digits: "1"}}, {Kind: 7, Num: api.Dec{Digits: "1"}}, {Kind: -1},
		{Kind: api.Number, Num: api.Dec{Digits: "10"}}, {Kind: api.Number, Num: api.Dec{Digits: "x"}}, {Kind: api.Number, Num: api.Dec{Neg: true}}, {Kind: api.Number, Num: api.Dec{Exp: 1}}, {Kind: api.Number, Num: api.Dec{Digits: "1", Exp: api.MaxExp + 1}},
	} {
		if n := Count(v); n != -1 {
			t.Errorf("Count(%v): %d", v, n)
		}
	}
}

// P12.2: schemas as deep as values may be, by several ways, and what is wrong at their end.
func TestDeep(t *testing.T) {
	ways := []struct{ ahead, behind, at string }{
		{`{"not":`, `}`, "/not"},
		{`{"title":"x","items":`, `,"type":"null"}`, "/items"},
		{`{"allOf":[true,`, `,{}]}`, "/allOf/1"},
		{`{"properties":{"~":`, `,"a":{}}}`, "/properties/~0"},
	}
	for _, w := range ways {
		levels := 9990 / strings.Count(strings.NewReplacer("[", "{").Replace(w.ahead), "{")
		ahead, behind, at := strings.Repeat(w.ahead, levels), strings.Repeat(w.behind, levels), strings.Repeat(w.at, levels)
		for inner, want := range map[string]wrong{`true`: {}, `{"type":"null"}`: {}, `1`: shapeAt(at), `{"type":1}`: shapeAt(at + "/type"), `{"pattern":"("}`: rxAt(at + "/pattern"), `{"patternProperties":{"a":1,"(":1}}`: rxAt(at + "/patternProperties/(")} {
			if got, e := Check(read(t, ahead+inner+behind)); got != want.at || e != want.code {
				t.Errorf("%s, inner %s: %d bytes, %d", w.ahead, inner, len(got), e)
			}
		}
		if l := Subs(read(t, ahead+`true`+behind)); !slices.Contains(l, w.at) {
			t.Error(w.ahead, l)
		}
	}
}

// R1: a wide schema at the end of a deep way costs no more than both.
func TestDeepAndWide(t *testing.T) {
	for _, levels := range []int{511, 512, 847, 848, 849, 1280, 1792, 4096, 8192} {
		v := api.Value{Kind: api.Object}
		for i := range 20000 {
			v.Keys = append(v.Keys, "x"+strings.Repeat("y", i%7)+string(rune(0x4e00+i)))
			v.List = append(v.List, api.Value{Kind: api.True})
		}
		v = api.Value{Kind: api.Object, Keys: []string{"patternProperties", "properties", "type"}, List: []api.Value{v, v, {Kind: api.Null}}}
		for range levels {
			v = api.Value{Kind: api.Object, Keys: []string{"not"}, List: []api.Value{v}}
		}
		if at, e := Check(v); at != strings.Repeat("/not", levels)+"/type" || e != api.ErrShape {
			t.Error(levels, len(at), e)
		}
	}
}

// wrongValues are values that may not be.
func wrongValues() []api.Value {
	ring := make([]api.Value, 3)
	for i := range ring {
		ring[i] = api.Value{Kind: api.Object, List: ring, Keys: []string{"not", "if", "allOf"}}
	}
	deep := api.Value{Kind: api.True}
	for range 100000 {
		deep = api.Value{Kind: api.Object, List: []api.Value{deep}, Keys: []string{"not"}}
	}
	yes := api.Value{Kind: api.True}
	return []api.Value{
		{Kind: -1}, {Kind: 7}, {Kind: 7, List: []api.Value{yes}, Keys: []string{"not"}},
		{Kind: api.True, Text: "a"}, {Kind: api.Object, Text: "a"},
		{Kind: api.Object, Keys: []string{"not"}}, {Kind: api.Object, List: []api.Value{yes}}, {Kind: api.Object, Keys: []string{"not", "if"}, List: []api.Value{yes}},
		{Kind: api.Object, Keys: []string{"not", "not"}, List: []api.Value{yes, yes}},
		{Kind: api.Object, Keys: []string{"\xff"}, List: []api.Value{yes}},
		{Kind: api.Object, Keys: []string{"properties"}, List: []api.Value{{Kind: api.Object, Keys: []string{"a", "b"}, List: []api.Value{yes}}}},
		{Kind: api.Object, Keys: []string{"$vocabulary"}, List: []api.Value{{Kind: api.Object, Keys: []string{"x:/a", "x:/b"}, List: []api.Value{yes}}}},
		{Kind: api.Object, Keys: []string{"multipleOf"}, List: []api.Value{{Kind: api.Number, Num: api.Dec{Digits: "x"}}}},
		{Kind: api.Object, Keys: []string{"const"}, List: []api.Value{{Kind: 9}}},
		ring[0], {Kind: api.Array, List: ring}, deep,
	}
}

// R1: values that may not be are no schemas, and no call of one panics or goes on without an end.
func TestWrongValues(t *testing.T) {
	for i, v := range wrongValues() {
		if value.Check(v) == api.OK {
			t.Errorf("number %d may be", i)
		}
		if at, e := Check(v); at != "" || e != api.ErrShape {
			t.Errorf("number %d: %q, %d", i, at, e)
		}
		if v.Kind != api.Object && len(Subs(v)) > 0 {
			t.Errorf("number %d: %q", i, Subs(v))
		}
		Subs(v)
		if n := Count(v); n != -1 {
			t.Errorf("number %d: %d", i, n)
		}
	}
}
