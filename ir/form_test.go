package ir

import (
	"fmt"
	"reflect"
	"slices"
	"strings"
	"testing"

	"caliper/api"
	"caliper/json"
	"caliper/shape"
	"caliper/value"
)

// chance is a row of numbers that is the same each time.
type chance uint64

func (c *chance) below(n int) int {
	*c = *c*6364136223846793005 + 1442695040888963407
	return int(uint64(*c>>33) % uint64(n))
}

func (c *chance) of(words ...string) string {
	return words[c.below(len(words))]
}

// shuffle puts a row into some other order.
func shuffle[T any](c *chance, row []T) {
	for i := range row {
		j := c.below(i + 1)
		row[i], row[j] = row[j], row[i]
	}
}

// parsed is a text's value.
func parsed(s string) api.Value {
	v, _, errno := json.Parse([]byte(s))
	if errno != api.OK {
		panic(s)
	}
	return v
}

// shown is a form as a text: all fields of all rules, where nil and empty lists are the same.
func shown(f api.Form) string {
	var out strings.Builder
	fmt.Fprintf(&out, "never %v, resource %d", f.Never, f.Resource)
	for _, r := range f.Rules {
		fmt.Fprintf(&out, "\n%d: N %d M %d Num %v Vals %v Names %q Pats %q Subs %v", r.Kind, r.N, r.M, r.Num, r.Vals, r.Names, r.Pats, r.Subs)
	}
	return out.String()
}

// formed asks for what Form answers.
func formed(t *testing.T, v api.Value, want api.Form) {
	t.Helper()
	if got := Form(v); shown(got) != shown(want) {
		s, _ := value.Text(v)
		t.Errorf("Form(%s):\n%s\nnot\n%s", s, shown(got), shown(want))
	}
}

// ruled asks for the rules that Form answers of a text's value.
func ruled(t *testing.T, s string, want ...api.Rule) {
	t.Helper()
	formed(t, parsed(s), api.Form{Rules: want})
}

// whole is a small whole number.
func whole(digits string) api.Dec {
	return api.Dec{Digits: digits}
}

// sample is a key, what it may hold, its rules alone, and those beside all other samples, if they are others.
type sample struct {
	key    string
	holds  string
	alone  []api.Rule
	beside []api.Rule
}

// samples are all keys of P16.1, in its order.
func samples() []sample {
	one := []int{-2}
	rule := func(r api.Rule) []api.Rule { return []api.Rule{r} }
	return []sample{
		{"type", `["string","null"]`, rule(api.Rule{Kind: api.RuType, Names: []string{"string", "null"}}), nil},
		{"const", `{"b":[1,{}],"a":"x"}`, rule(api.Rule{Kind: api.RuConst, Vals: []api.Value{parsed(`{"b":[1,{}],"a":"x"}`)}}), nil},
		{"enum", `[[1],1,1,null]`, rule(api.Rule{Kind: api.RuEnum, Vals: parsed(`[[1],1,1,null]`).List}), nil},
		{"multipleOf", `0.50`, rule(api.Rule{Kind: api.RuMultiple, Num: api.Dec{Digits: "5", Exp: -1}}), nil},
		{"maximum", `-12e3`, rule(api.Rule{Kind: api.RuMax, Num: api.Dec{Neg: true, Digits: "12", Exp: 3}}), nil},
		{"exclusiveMaximum", `7`, rule(api.Rule{Kind: api.RuMaxOut, Num: whole("7")}), nil},
		{"minimum", `0`, rule(api.Rule{Kind: api.RuMin}), nil},
		{"exclusiveMinimum", `9`, rule(api.Rule{Kind: api.RuMinOut, Num: whole("9")}), nil},
		{"maxLength", `10`, rule(api.Rule{Kind: api.RuLongest, N: 10}), nil},
		{"minLength", `0`, rule(api.Rule{Kind: api.RuShortest}), nil},
		{"pattern", `"^a|b$"`, rule(api.Rule{Kind: api.RuPattern, Pats: []string{"^a|b$"}}), nil},
		{"maxItems", `12.0`, rule(api.Rule{Kind: api.RuMostItems, N: 12}), nil},
		{"minItems", `13`, rule(api.Rule{Kind: api.RuLeastItems, N: 13}), nil},
		{"uniqueItems", `true`, rule(api.Rule{Kind: api.RuUnique}), nil},
		{"maxProperties", `15e9`, rule(api.Rule{Kind: api.RuMostProps, N: 1000000000}), nil},
		{"minProperties", `16`, rule(api.Rule{Kind: api.RuLeastProps, N: 16}), nil},
		{"required", `["z","a"]`, rule(api.Rule{Kind: api.RuRequired, Names: []string{"z", "a"}}), nil},
		{"dependentRequired", `{"q":["p","q"],"e":[]}`, []api.Rule{{Kind: api.RuDepends, Names: []string{"q", "p", "q"}}, {Kind: api.RuDepends, Names: []string{"e"}}}, nil},
		{"$ref", `"x:/y"`, rule(api.Rule{Kind: api.RuRef, Subs: one}), nil},
		{"$dynamicRef", `"#a"`, rule(api.Rule{Kind: api.RuRef, Subs: one}), nil},
		{"allOf", `[true,false,{}]`, rule(api.Rule{Kind: api.RuAll, Subs: []int{-2, -2, -2}}), nil},
		{"anyOf", `[{"not":{}},true]`, rule(api.Rule{Kind: api.RuAny, Subs: []int{-2, -2}}), nil},
		{"oneOf", `[{}]`, rule(api.Rule{Kind: api.RuOne, Subs: one}), nil},
		{"not", `{"type":"null"}`, rule(api.Rule{Kind: api.RuNot, Subs: one}), nil},
		{"if", `{}`, rule(api.Rule{Kind: api.RuIf, Subs: []int{-2, -1, -1}}), rule(api.Rule{Kind: api.RuIf, Subs: []int{-2, -2, -2}})},
		{"dependentSchemas", `{"t":{},"s":true}`, []api.Rule{{Kind: api.RuWhen, Names: []string{"t"}, Subs: one}, {Kind: api.RuWhen, Names: []string{"s"}, Subs: one}}, nil},
		{"prefixItems", `[{},{},{},false]`, rule(api.Rule{Kind: api.RuPrefix, Subs: []int{-2, -2, -2, -2}}), nil},
		{"items", `false`, rule(api.Rule{Kind: api.RuItems, Subs: one}), rule(api.Rule{Kind: api.RuItems, N: 4, Subs: one})},
		{"contains", `{}`, rule(api.Rule{Kind: api.RuContains, N: 1, M: -1, Subs: one}), rule(api.Rule{Kind: api.RuContains, N: 3, M: 2, Subs: one})},
		{"properties", `{"b":{},"":true,"a":{}}`, rule(api.Rule{Kind: api.RuProps, Names: []string{"b", "", "a"}, Subs: []int{-2, -2, -2}}), nil},
		{"patternProperties", `{"z$":{},"^":false}`, rule(api.Rule{Kind: api.RuMatching, Pats: []string{"z$", "^"}, Subs: []int{-2, -2}}), nil},
		{"additionalProperties", `false`, rule(api.Rule{Kind: api.RuRest, Subs: one}), rule(api.Rule{Kind: api.RuRest, Names: []string{"b", "", "a"}, Pats: []string{"z$", "^"}, Subs: one})},
		{"propertyNames", `{"const":1}`, rule(api.Rule{Kind: api.RuNames, Subs: one}), nil},
		{"unevaluatedItems", `{}`, rule(api.Rule{Kind: api.RuLeftItems, Subs: one}), nil},
		{"unevaluatedProperties", `true`, rule(api.Rule{Kind: api.RuLeftProps, Subs: one}), nil},
	}
}

// mutes are members that make no rules of their own.
func mutes() []string {
	return []string{
		`"then":{}`, `"else":true`, `"minContains":3`, `"maxContains":2`, `"$defs":{"a":{"type":"null"}}`, `"contentSchema":{"type":"null"}`,
		`"$id":"x:/z"`, `"$schema":"x:/s"`, `"$anchor":"a"`, `"$dynamicAnchor":"b"`, `"$vocabulary":{"x:/v":false}`, `"$comment":"c"`,
		`"title":"t"`, `"default":{"type":"null"}`, `"examples":[{"not":{}}]`, `"deprecated":true`, `"format":"date"`, `"contentEncoding":"e"`,
		`"x":{"type":"null"}`, `"":{}`, `"Type":"null"`, `"definitions":{}`, `"dependencies":{"a":["b"]}`, `"additionalItems":false`,
	}
}

// object is an object with these members.
func object(members []string) string {
	return "{" + strings.Join(members, ",") + "}"
}

// P16.1: the chapter's example.
func TestExample(t *testing.T) {
	ruled(t, `{"items":true,"type":"array","prefixItems":[{}]}`,
		api.Rule{Kind: api.RuType, Names: []string{"array"}},
		api.Rule{Kind: api.RuPrefix, Subs: []int{-2}},
		api.Rule{Kind: api.RuItems, N: 1, Subs: []int{-2}})
}

// P16.1: each key alone.
func TestKeysAlone(t *testing.T) {
	for _, s := range samples() {
		ruled(t, `{"`+s.key+`":`+s.holds+`}`, s.alone...)
	}
}

// P16.1: each two keys, either way round.
func TestKeysInPairs(t *testing.T) {
	all := samples()
	for i, a := range all {
		for _, b := range all[i+1:] {
			if a.beside != nil || b.beside != nil {
				continue
			}
			want := slices.Concat(a.alone, b.alone)
			ruled(t, `{"`+a.key+`":`+a.holds+`,"`+b.key+`":`+b.holds+`}`, want...)
			ruled(t, `{"`+b.key+`":`+b.holds+`,"`+a.key+`":`+a.holds+`}`, want...)
		}
	}
}

// P16.1: all keys together: their rules stand in one order, whatever that of the keys.
func TestKeysTogether(t *testing.T) {
	members := mutes()
	var want []api.Rule
	for _, s := range samples() {
		members = append(members, `"`+s.key+`":`+s.holds)
		if s.beside == nil {
			s.beside = s.alone
		}
		want = append(want, s.beside...)
	}
	ruled(t, object(members), want...)
	slices.Reverse(members)
	ruled(t, object(members), want...)
	c := chance(16)
	for range 200 {
		shuffle(&c, members)
		ruled(t, object(members), want...)
	}
}

// P16.1: all keys but one: its rules alone are not there.
func TestKeysButOne(t *testing.T) {
	all := samples()
	c := chance(17)
	for left := range all {
		if slices.Contains([]string{"prefixItems", "properties", "patternProperties"}, all[left].key) {
			continue
		}
		members := mutes()
		var want []api.Rule
		for i, s := range all {
			if i == left {
				continue
			}
			members = append(members, `"`+s.key+`":`+s.holds)
			if s.beside == nil {
				s.beside = s.alone
			}
			want = append(want, s.beside...)
		}
		shuffle(&c, members)
		ruled(t, object(members), want...)
	}
}

// P16.1: schemas without rules, and what is no schema.
func TestFormsWithoutRules(t *testing.T) {
	formed(t, parsed(`true`), api.Form{})
	formed(t, parsed(`false`), api.Form{Never: true})
	formed(t, parsed(`{}`), api.Form{})
	ruled(t, object(mutes()))
	for _, m := range mutes() {
		ruled(t, `{`+m+`}`)
	}
	for _, s := range []string{
		`null`, `0`, `1`, `""`, `"true"`, `[]`, `[true]`, `[{"type":"null"}]`,
		`{"type":"null","not":1}`, `{"type":"nil"}`, `{"type":[]}`, `{"minimum":1,"maximum":"1"}`, `{"type":"null","title":1}`,
		`{"const":1,"allOf":[]}`, `{"pattern":"("}`, `{"patternProperties":{"(":true}}`, `{"properties":{"a":{"properties":{"b":{"type":1}}}}}`,
		`{"multipleOf":0}`, `{"minLength":-1}`, `{"minLength":0.5}`, `{"uniqueItems":1}`, `{"required":["a","a"]}`, `{"$ref":1}`, `{"if":null}`,
		`{"$defs":{"a":0},"type":"null"}`, `{"$vocabulary":{"x:/v":true},"type":"null"}`, `{"dependentRequired":{"a":"b"}}`,
	} {
		formed(t, parsed(s), api.Form{})
	}
	formed(t, api.Value{Kind: 7}, api.Form{})
	formed(t, api.Value{Kind: -1}, api.Form{})
	formed(t, api.Value{Kind: api.Object, Keys: []string{"type"}}, api.Form{})
	formed(t, api.Value{Kind: api.True, Text: "x"}, api.Form{})
}

// P16.1: type as one text and as a list, as they stand.
func TestTypes(t *testing.T) {
	for _, name := range strings.Fields("array boolean integer null number object string") {
		ruled(t, `{"type":"`+name+`"}`, api.Rule{Kind: api.RuType, Names: []string{name}})
		ruled(t, `{"type":["`+name+`"]}`, api.Rule{Kind: api.RuType, Names: []string{name}})
	}
	ruled(t, `{"type":["string","integer","array","number","null","object","boolean"]}`,
		api.Rule{Kind: api.RuType, Names: []string{"string", "integer", "array", "number", "null", "object", "boolean"}})
}

// P16.1: lists that are empty, and a flag that is false.
func TestEmptyKeys(t *testing.T) {
	ruled(t, `{"uniqueItems":false}`)
	ruled(t, `{"enum":[]}`, api.Rule{Kind: api.RuEnum})
	ruled(t, `{"required":[]}`, api.Rule{Kind: api.RuRequired})
	ruled(t, `{"properties":{}}`, api.Rule{Kind: api.RuProps})
	ruled(t, `{"patternProperties":{}}`, api.Rule{Kind: api.RuMatching})
	ruled(t, `{"dependentRequired":{}}`)
	ruled(t, `{"dependentSchemas":{}}`)
	ruled(t, `{"dependentSchemas":{"":true},"dependentRequired":{"":[]}}`,
		api.Rule{Kind: api.RuDepends, Names: []string{""}},
		api.Rule{Kind: api.RuWhen, Names: []string{""}, Subs: []int{-2}})
	ruled(t, `{"const":null}`, api.Rule{Kind: api.RuConst, Vals: []api.Value{{}}})
	ruled(t, `{"const":[]}`, api.Rule{Kind: api.RuConst, Vals: []api.Value{{Kind: api.Array}}})
	ruled(t, `{"pattern":""}`, api.Rule{Kind: api.RuPattern, Pats: []string{""}})
}

// P16.1: conditions with and without what hangs on them; without one that is nothing.
func TestConditions(t *testing.T) {
	ruled(t, `{"then":{"type":"null"}}`)
	ruled(t, `{"else":{}}`)
	ruled(t, `{"then":true,"else":false}`)
	for s, subs := range map[string][]int{
		`{"if":{}}`:                                {-2, -1, -1},
		`{"if":false,"then":{}}`:                   {-2, -2, -1},
		`{"else":false,"if":true}`:                 {-2, -1, -2},
		`{"else":true,"then":{"if":{}},"if":true}`: {-2, -2, -2},
	} {
		ruled(t, s, api.Rule{Kind: api.RuIf, Subs: subs})
	}
}

// P16.1: items with and without prefixItems, contains with and without its counts.
func TestArrays(t *testing.T) {
	one := []int{-2}
	ruled(t, `{"items":{}}`, api.Rule{Kind: api.RuItems, Subs: one})
	ruled(t, `{"prefixItems":[true]}`, api.Rule{Kind: api.RuPrefix, Subs: one})
	ruled(t, `{"items":{},"prefixItems":[true,true]}`, api.Rule{Kind: api.RuPrefix, Subs: []int{-2, -2}}, api.Rule{Kind: api.RuItems, N: 2, Subs: one})
	ruled(t, `{"minContains":2,"maxContains":3}`)
	ruled(t, `{"contains":true}`, api.Rule{Kind: api.RuContains, N: 1, M: -1, Subs: one})
	ruled(t, `{"contains":true,"minContains":0}`, api.Rule{Kind: api.RuContains, N: 0, M: -1, Subs: one})
	ruled(t, `{"minContains":2,"contains":true}`, api.Rule{Kind: api.RuContains, N: 2, M: -1, Subs: one})
	ruled(t, `{"contains":true,"maxContains":0}`, api.Rule{Kind: api.RuContains, N: 1, M: 0, Subs: one})
	ruled(t, `{"maxContains":5,"contains":true,"minContains":6}`, api.Rule{Kind: api.RuContains, N: 6, M: 5, Subs: one})
	ruled(t, `{"contains":true,"minContains":1000000001,"maxContains":1e1000000}`, api.Rule{Kind: api.RuContains, N: 1000000000, M: 1000000000, Subs: one})
}

// P16.1: additionalProperties with and without what it leaves out.
func TestRest(t *testing.T) {
	one := []int{-2}
	ruled(t, `{"additionalProperties":{}}`, api.Rule{Kind: api.RuRest, Subs: one})
	ruled(t, `{"additionalProperties":{},"properties":{}}`, api.Rule{Kind: api.RuProps}, api.Rule{Kind: api.RuRest, Subs: one})
	ruled(t, `{"additionalProperties":{},"properties":{"b":true,"a":{}}}`,
		api.Rule{Kind: api.RuProps, Names: []string{"b", "a"}, Subs: []int{-2, -2}},
		api.Rule{Kind: api.RuRest, Names: []string{"b", "a"}, Subs: one})
	ruled(t, `{"patternProperties":{"b":true,"a":{}},"additionalProperties":{}}`,
		api.Rule{Kind: api.RuMatching, Pats: []string{"b", "a"}, Subs: []int{-2, -2}},
		api.Rule{Kind: api.RuRest, Pats: []string{"b", "a"}, Subs: one})
}

// P16.1: the max and min keys' numbers are Counts.
func TestCounts(t *testing.T) {
	kinds := map[string]api.RuleKind{
		"maxLength": api.RuLongest, "minLength": api.RuShortest, "maxItems": api.RuMostItems,
		"minItems": api.RuLeastItems, "maxProperties": api.RuMostProps, "minProperties": api.RuLeastProps,
	}
	for key, kind := range kinds {
		for _, s := range []string{"0", "-0.0", "1", "10e-1", "999999999", "1000000000", "1e9", "1000000001", "1e1000000"} {
			n := shape.Count(parsed(s))
			if n < 0 || n > 1000000000 {
				t.Fatal(s, n)
			}
			ruled(t, `{"`+key+`":`+s+`}`, api.Rule{Kind: kind, N: n})
		}
	}
}

// P16.1: both references of one schema.
func TestReferences(t *testing.T) {
	want := []api.Rule{{Kind: api.RuRef, Subs: []int{-2}}, {Kind: api.RuRef, Subs: []int{-2}}}
	ruled(t, `{"$ref":"#","$dynamicRef":"#a"}`, want...)
	ruled(t, `{"$dynamicRef":"#a","$ref":"#"}`, want...)
	ruled(t, `{"$dynamicRef":"nowhere"}`, want[0])
}

// The table of ways has just the keys of the order, and these are the chapter's.
func TestWaysAreTheOrder(t *testing.T) {
	var want []string
	for _, s := range samples() {
		want = append(want, s.key)
		if w, ok := ways()[s.key]; !ok || w.read == nil || w.kind != s.alone[0].Kind {
			t.Error(s.key, w.kind)
		}
	}
	if got := strings.Fields(order); !slices.Equal(got, want) || len(ways()) != len(want) {
		t.Error(got, len(ways()))
	}
}

// spoil changes all that a form's lists hold, down to the innermost.
func spoil(f api.Form) {
	for _, r := range f.Rules {
		spoilRule(r)
	}
}

func spoilRule(r api.Rule) {
	for i := range r.Names {
		r.Names[i] = "spoilt"
	}
	for i := range r.Pats {
		r.Pats[i] = "spoilt"
	}
	for i := range r.Subs {
		r.Subs[i] = -99
	}
	spoilValues(r.Vals)
}

func spoilValues(l []api.Value) {
	for i := range l {
		for j := range l[i].Keys {
			l[i].Keys[j] = "spoilt"
		}
		spoilValues(l[i].List)
		l[i] = api.Value{Kind: api.String, Text: "spoilt"}
	}
}

// all is a schema with all keys.
func all() string {
	members := mutes()
	for _, s := range samples() {
		members = append(members, `"`+s.key+`":`+s.holds)
	}
	return object(members)
}

// R3: what is handed in is not changed, what is answered is the caller's own, list by list, and the same call answers the same.
func TestFormMemory(t *testing.T) {
	v := parsed(all())
	first := Form(v)
	text := shown(first)
	for n := range first.Rules {
		if got := Form(v); shown(got) != text {
			t.Fatalf("%s\nthen\n%s", text, shown(got))
		} else {
			spoilRule(got.Rules[n])
			got.Rules[n] = first.Rules[n]
			if shown(got) != text {
				t.Errorf("rule %d shares lists with others", n)
			}
		}
	}
	spoil(first)
	if !reflect.DeepEqual(v, parsed(all())) {
		t.Error("the schema was changed")
	}
	again := Form(v)
	spoilValues(v.List)
	if shown(again) != text {
		t.Error("the form shares lists with the schema")
	}
	for _, r := range again.Rules {
		before := shown(again)
		_ = append(r.Names, "x")
		_ = append(r.Pats, "x")
		_ = append(r.Subs, 1)
		_ = append(r.Vals, api.Value{Kind: api.True})
		if shown(again) != before {
			t.Error("lists of a form share room")
		}
	}
}

// R7: what stands behind a list's end is nobody's.
func TestRoomBehind(t *testing.T) {
	v := parsed(`{"required":["a","b"],"allOf":[true,{}],"not":{},"type":"null"}`)
	v.Keys, v.List = v.Keys[:2], v.List[:2]
	v.List[0].List, v.List[1].List = v.List[0].List[:1], v.List[1].List[:1]
	formed(t, v, api.Form{Rules: []api.Rule{{Kind: api.RuRequired, Names: []string{"a"}}, {Kind: api.RuAll, Subs: []int{-2}}}})
}
