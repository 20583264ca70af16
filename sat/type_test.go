package sat

import (
	"strings"
	"testing"

	"caliper/api"
)

// typesOf has values, each with its types' names.
func typesOf() map[string]string {
	return map[string]string{
		"null":                  "null",
		"false":                 "boolean",
		"true":                  "boolean",
		"0":                     "number integer",
		"-0.0":                  "number integer",
		"1":                     "number integer",
		"-7":                    "number integer",
		"1.0":                   "number integer",
		"10e-1":                 "number integer",
		"1e1000000":             "number integer",
		"12.50e1":               "number integer",
		"0e-9999999":            "number integer",
		"0.5":                   "number",
		"-1.25":                 "number",
		"1e-1":                  "number",
		"1e-1000000":            "number",
		"12.50e0":               "number",
		`""`:                    "string",
		`"null"`:                "string",
		`"1"`:                   "string",
		"[]":                    "array",
		"[null]":                "array",
		"[1]":                   "array",
		"{}":                    "object",
		`{"a":1}`:               "object",
		"9007199254740993":      "number integer",
		"9007199254740993.0001": "number",
	}
}

// P19.2: Type of values of each Kind and each name; of a name that is none it is false.
func TestType(t *testing.T) {
	names := []string{"null", "boolean", "number", "integer", "string", "array", "object", "", "any", "Null", "null ", "true", "numbers", "int", "\xff"}
	for v, types := range typesOf() {
		for _, name := range names {
			want := name != "" && strings.Contains(" "+types+" ", " "+name+" ")
			if name == "null " {
				want = false
			}
			if got := Type(parsed(v), name); got != want {
				t.Errorf("Type(%s, %q) is %v", v, name, got)
			}
		}
	}
}

// R1: values of which nothing is promised have no type that would be none of theirs, and lead to no panic.
func TestTypeOfWhatMayNotBe(t *testing.T) {
	for _, v := range []api.Value{{Kind: 7}, {Kind: -1}, {Kind: api.Number, Num: api.Dec{Digits: "x"}}, {Kind: api.Object, Keys: []string{"a"}}} {
		for _, name := range []string{"null", "boolean", "integer", "string", "array"} {
			if Type(v, name) {
				t.Error(v, name)
			}
		}
	}
}

// P19.2: RuType keeps if one of the names, in whatever order, is the value's.
func TestRuType(t *testing.T) {
	all := strings.Fields("null boolean number integer string array object")
	for v, types := range typesOf() {
		for _, one := range all {
			for _, other := range all {
				r := typed(one + " " + other)
				if strings.Contains(types, one) || strings.Contains(types, other) {
					keeps(t, r, v)
				} else {
					breaks(t, r, v)
				}
			}
		}
		keeps(t, typed(strings.Join(all, " ")), v)
	}
	keeps(t, typed("integer"), "1", "1.0", "10e-1", "0", "-3e5")
	breaks(t, typed("integer"), "0.1", "1.5", `"1"`, "null", "[1]")
	keeps(t, typed("integer integer"), "3")
}
