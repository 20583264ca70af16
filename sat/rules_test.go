package sat

import (
	"strings"
	"testing"

	"caliper/api"
)

// one is a rule of a kind with a number as text.
func one(kind api.RuleKind, num string) api.Rule {
	return api.Rule{Kind: kind, Num: parsed(num).Num}
}

// counting is a rule of a kind with a count.
func counting(kind api.RuleKind, n int) api.Rule {
	return api.Rule{Kind: kind, N: n}
}

// vals is a rule of a kind with the elements of an array.
func vals(kind api.RuleKind, list string) api.Rule {
	return api.Rule{Kind: kind, Vals: parsed(list).List}
}

// others are values of which rules that speak of one kind alone do not speak, but for those of that kind.
func others(but string) []string {
	all := map[string][]string{
		"number": {"0", "-5", "1.5", "3"},
		"string": {`""`, `"a"`, `"abcdefgh"`},
		"array":  {"[]", "[1,1]", `["a","a",[]]`},
		"object": {"{}", `{"a":1}`, `{"b":[],"a":{},"c":null}`},
		"word":   {"null", "true", "false"},
	}
	delete(all, but)
	var rest []string
	for _, row := range all {
		rest = append(rest, row...)
	}
	return rest
}

// P19.2: RuConst and RuEnum keep what is Equal to one of Vals.
func TestConstEnum(t *testing.T) {
	for _, sample := range []struct{ list, kept, broken string }{
		{`[1]`, `[1,1.0,10e-1,0.1e1]`, `[true,"1",[1],{"a":1},0,-1,1.1,null]`},
		{`[null]`, `[null]`, `[false,0,"",[],{},"null"]`},
		{`[false]`, `[false]`, `[null,true,0,""]`},
		{`[0]`, `[0,-0.0,0e5]`, `[null,false,1,""]`},
		{`[""]`, `[""]`, `[null,"a",[],0]`},
		{`["aé"]`, `["aé","\u0061\u00e9"]`, `["ae\u0301","Aé","a",["aé"]]`},
		{`[[]]`, `[[]]`, `[{},null,[null],""]`},
		{`[{}]`, `[{}]`, `[[],null,{"a":{}}]`},
		{`[{"b":1.0,"a":[]}]`, `[{"a":[],"b":1},{"b":10e-1,"a":[]}]`, `[{"a":[]},{"a":[],"b":2},{"a":[],"b":1,"c":1},{"a":[[]],"b":1},[[],1]]`},
		{`[[1,2]]`, `[[1,2.0]]`, `[[2,1],[1],[1,2,3],1,2]`},
	} {
		for _, v := range parsed(sample.kept).List {
			for _, kind := range []api.RuleKind{api.RuConst, api.RuEnum} {
				if ok, l, errno := Sat(around(vals(kind, sample.list)), v); !ok || len(l) > 0 || errno != api.OK {
					t.Error(sample.list, v, ok, l, errno)
				}
			}
		}
		for _, v := range parsed(sample.broken).List {
			for _, kind := range []api.RuleKind{api.RuConst, api.RuEnum} {
				if ok, l, errno := Sat(around(vals(kind, sample.list)), v); ok || len(l) > 0 || errno != api.OK {
					t.Error(sample.list, v, ok, l, errno)
				}
			}
		}
	}
	breaks(t, vals(api.RuEnum, `[]`), "null", "[]", "0")
	keeps(t, vals(api.RuEnum, `["a",1,[2],1]`), `"a"`, "1.0", "[2]")
	breaks(t, vals(api.RuEnum, `["a",1,[2],1]`), `"b"`, "2", "[1]", `[["a",1,[2],1]]`)
}

// P19.2: RuMultiple, of numbers alone.
func TestMultiple(t *testing.T) {
	keeps(t, one(api.RuMultiple, "0.1"), append(others("number"), "0.3", "0", "-0.7", "1e100", "5")...)
	breaks(t, one(api.RuMultiple, "0.1"), "0.35", "-0.01", "1e-1000000")
	keeps(t, one(api.RuMultiple, "3"), "9", "-3.0", "0", "3e50", "30000000000000000000000000000000000000003")
	breaks(t, one(api.RuMultiple, "3"), "1", "3.5", "1e50", "30000000000000000000000000000000000000001")
}

// P19.2: RuMax, RuMaxOut, RuMin, RuMinOut, of numbers alone.
func TestBounds(t *testing.T) {
	below, same, above := []string{"2.49999999999999999999", "-3", "0", "-1e1000"}, []string{"2.5", "25e-1", "2.500"}, []string{"2.50000000000000000001", "3", "1e1000"}
	for _, sample := range []struct {
		kind               api.RuleKind
		below, same, above bool
	}{
		{api.RuMax, true, true, false},
		{api.RuMaxOut, true, false, false},
		{api.RuMin, false, true, true},
		{api.RuMinOut, false, false, true},
	} {
		r := one(sample.kind, "2.5")
		keeps(t, r, others("number")[3:]...)
		for _, row := range []struct {
			values []string
			kept   bool
		}{{below, sample.below}, {same, sample.same}, {above, sample.above}} {
			if row.kept {
				keeps(t, r, row.values...)
			} else {
				breaks(t, r, row.values...)
			}
		}
		r = one(sample.kind, "0")
		for v, kept := range map[string]bool{"-1e-9": sample.below, "-0": sample.same, "1e-9": sample.above} {
			if kept {
				keeps(t, r, v)
			} else {
				breaks(t, r, v)
			}
		}
	}
}

// P19.2: RuLongest and RuShortest count code points, of strings alone.
func TestLengths(t *testing.T) {
	keeps(t, counting(api.RuLongest, 2), append(others("string"), `""`, `"ab"`, `"é€"`, `"😀😀"`, `"\ud83d\ude00"`)...)
	breaks(t, counting(api.RuLongest, 2), `"abc"`, `"ééé"`, `"e\u0301e"`)
	keeps(t, counting(api.RuLongest, 0), append(others("string"), `""`)...)
	breaks(t, counting(api.RuLongest, 0), `"a"`, `"\u0000"`)
	keeps(t, counting(api.RuShortest, 2), append(others("string"), `"ab"`, `"é€"`, `"😀😀"`, `"abc"`)...)
	breaks(t, counting(api.RuShortest, 2), `""`, `"é"`, `"😀"`, `"\ud83d\ude00"`)
	keeps(t, counting(api.RuShortest, 0), `""`, `"a"`)
	keeps(t, counting(api.RuLongest, 1000000000), `"abc"`)
	breaks(t, counting(api.RuShortest, 1000000000), `"abc"`)
}

// P19.2: RuPattern finds something anywhere in a string, of strings alone.
func TestPattern(t *testing.T) {
	pattern := func(s string) api.Rule { return api.Rule{Kind: api.RuPattern, Pats: []string{s}} }
	keeps(t, pattern("b+c"), append(others("string"), `"abbcd"`, `"bc"`)...)
	breaks(t, pattern("b+c"), `""`, `"b"`, `"cb"`, `"BC"`, `"b c"`)
	keeps(t, pattern("^é$"), `"é"`, "1")
	breaks(t, pattern("^é$"), `"éé"`, `"e"`, `"aé"`)
	keeps(t, pattern(""), `""`, `"a"`)
	breaks(t, pattern("[]"), `""`, `"a"`)
	keeps(t, pattern(`\bx`), `"a x"`)
	breaks(t, pattern(`\bx`), `"ax"`)
	keeps(t, pattern("(a{3}){2}"), `"aaaaaa"`)
	breaks(t, pattern("(a{3}){2}"), `"aaaaa"`)
}

// P19.2: rules that count elements and members, each of its kind of values alone.
func TestCounts(t *testing.T) {
	keeps(t, counting(api.RuMostItems, 1), append(others("array"), "[]", "[1]", "[[1,2]]")...)
	breaks(t, counting(api.RuMostItems, 1), "[1,1]", "[1,2,3]")
	keeps(t, counting(api.RuLeastItems, 1), append(others("array"), "[1]", "[1,2]")...)
	breaks(t, counting(api.RuLeastItems, 1), "[]")
	keeps(t, counting(api.RuMostItems, 0), append(others("array"), "[]")...)
	breaks(t, counting(api.RuMostItems, 0), "[[]]")
	keeps(t, counting(api.RuMostProps, 1), append(others("object"), "{}", `{"a":1}`, `{"a":{"b":1,"c":2}}`)...)
	breaks(t, counting(api.RuMostProps, 1), `{"a":1,"b":1}`)
	keeps(t, counting(api.RuLeastProps, 2), append(others("object"), `{"a":1,"b":1}`, `{"a":1,"b":1,"":1}`)...)
	breaks(t, counting(api.RuLeastProps, 2), "{}", `{"a":{"b":1,"c":2}}`)
}

// P19.2: RuUnique, of arrays alone.
func TestUnique(t *testing.T) {
	r := api.Rule{Kind: api.RuUnique}
	keeps(t, r, append(others("array"), "[]", "[1]", `[1,true,"1",[1],{"a":1}]`, "[[1,2],[2,1]]", `{"a":1,"b":1}`, "[null,false,0]")...)
	breaks(t, r, "[1,1]", "[1,2,10e-1]", `[{"a":1,"b":2},3,{"b":2.0,"a":1}]`, "[[[]],[[]]]", `["a","\u0061"]`)
}

// P19.2: RuRequired and RuDepends, of objects alone.
func TestRequired(t *testing.T) {
	named := func(kind api.RuleKind, names ...string) api.Rule { return api.Rule{Kind: kind, Names: names} }
	keeps(t, named(api.RuRequired, "a", "b"), append(others("object"), `{"a":1,"b":null}`, `{"b":1,"c":1,"a":1}`)...)
	breaks(t, named(api.RuRequired, "a", "b"), "{}", `{"a":1}`, `{"b":1,"A":2}`, `{"c":{"a":1,"b":1}}`)
	keeps(t, named(api.RuRequired), append(others("object"), "{}", `{"a":1}`)...)
	keeps(t, named(api.RuRequired, "", "é"), `{"":1,"\u00e9":2}`)
	breaks(t, named(api.RuRequired, "", "é"), `{"":1,"e\u0301":2}`)
	keeps(t, named(api.RuRequired, "a", "a"), `{"a":1}`)
	keeps(t, named(api.RuDepends, "a", "b", "c"), append(others("object"), "{}", `{"b":1}`, `{"c":1,"b":2}`, `{"c":1,"b":2,"a":3}`)...)
	breaks(t, named(api.RuDepends, "a", "b", "c"), `{"a":1}`, `{"a":1,"b":1}`, `{"c":1,"a":1,"d":1}`)
	keeps(t, named(api.RuDepends, "a"), "{}", `{"a":1}`)
	keeps(t, named(api.RuDepends, "a", "a"), "{}", `{"a":1}`)
}

// P19.2: a form takes a value if each of its rules keeps; Never takes none, a form without rules all.
func TestEachRule(t *testing.T) {
	all := append(others(""), "1e9", `"é"`, "[[[]]]")
	for _, v := range all {
		takes(t, around(), v)
		leaves(t, of(api.Form{Never: true}), v)
		takes(t, of(form()), v)
	}
	p := around(typed("number string"), one(api.RuMin, "2"), counting(api.RuShortest, 2), one(api.RuMax, "4"))
	for _, v := range []string{"2", "3", "4", `"ab"`, `"abc"`} {
		takes(t, p, v)
	}
	leaves(t, p, "1", "5", `"a"`, "null", "[]", "{}")
	p.Root = number
	takes(t, p, "1")
	leaves(t, p, `"ab"`)
	p.Root = no
	leaves(t, p, all...)
}

// P19.3 and the chapter's example, with unevaluatedProperties.
func TestExample(t *testing.T) {
	p := built(t, `{"properties":{"a":{"type":"integer"}},"unevaluatedProperties":false}`)
	takes(t, p, `{"a":1.0}`, 0)
	takes(t, p, "{}")
	takes(t, p, "[1]")
	leaves(t, p, `{"b":1}`, `{"a":1.5}`, `{"a":1,"b":1}`)
}

// P19.2: many patterns with many states each, more than are kept, asked again and again.
func TestManyPatterns(t *testing.T) {
	var r api.Rule
	r.Kind = api.RuMatching
	for _, letter := range strings.Fields("a b c d e f g h i j k l") {
		for _, pattern := range []string{"^(X{1000}){30}$", "^X{1,1000}$", "^X$"} {
			r.Pats = append(r.Pats, strings.ReplaceAll(pattern, "X", letter))
			r.Subs = append(r.Subs, number)
		}
	}
	p := around(r)
	c, d := strings.Repeat("c", 30000), strings.Repeat("d", 30001)
	takes(t, p, `{"aa":1,"b":2,"`+c+`":3,"`+d+`":null,"ab":null,"l":4}`, 0, 1, 2, 5)
	leaves(t, p, `{"aa":1,"`+c+`":null}`, `{"kk":""}`, `{"kk":1,"a":""}`)
}
