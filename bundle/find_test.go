package bundle

import (
	"math"
	"strconv"
	"testing"

	"caliper/api"
)

// P13.5: a schema by its place; ErrRef where none stands, whatever the numbers and texts are.
func TestAt(t *testing.T) {
	table := read(t, doc("x:/a", `{"$defs":{"b/c":{"not":true},"~":{}},"const":{"not":true}}`), doc("x:/b", `{"not":{}}`))
	for n, s := range table.Schemas {
		got, e := At(table, s.At)
		asked(t, s.At.Pointer, got, e, n)
	}
	for _, p := range []api.Place{
		{Doc: 0, Pointer: "/"}, {Doc: 0, Pointer: "/$defs"}, {Doc: 0, Pointer: "/const"}, {Doc: 0, Pointer: "/const/not"},
		{Doc: 0, Pointer: "/$defs/b/c"}, {Doc: 0, Pointer: "/$defs/~"}, {Doc: 0, Pointer: "$defs/~0"}, {Doc: 0, Pointer: "/$defs/~0/"}, {Doc: 0, Pointer: "#"},
		{Doc: 0, Pointer: "/not"}, {Doc: 1, Pointer: "/$defs/~0"}, {Doc: 1, Pointer: "/Not"}, {Doc: 1, Pointer: "\xff"},
		{Doc: 2}, {Doc: -1}, {Doc: 2, Pointer: "/not"}, {Doc: -1, Pointer: "/not"}, {Doc: math.MaxInt}, {Doc: math.MinInt},
	} {
		got, e := At(table, p)
		asked(t, strconv.Itoa(p.Doc)+p.Pointer, got, e, -1)
	}
	got, e := At(api.Table{}, api.Place{})
	asked(t, "none", got, e, -1)
}

// P13.5: a document's schema.
func TestRoot(t *testing.T) {
	table := read(t, doc("x:/a", `{"not":{},"$id":"x:/c"}`), doc("x:/b", `true`), doc("x:/d", "{}"))
	for number, want := range map[int]int{0: 0, 1: 2, 2: 3, 3: -1, -1: -1, math.MaxInt: -1, math.MinInt: -1} {
		got, e := Root(table, number)
		asked(t, strconv.Itoa(number), got, e, want)
	}
	got, e := Root(api.Table{}, 0)
	asked(t, "none", got, e, -1)
}

// P13.5: Find of a URI without a fragment and with an empty one, compared byte by byte.
func TestFindIds(t *testing.T) {
	table := read(t, doc("x:/a", `{"not":{"$id":"b?q","not":{"$id":"%63"}}}`), doc("x:/d", `{"$id":"y:/e"}`))
	for uri, want := range map[string]int{
		"x:/a": 0, "x:/b?q": 1, "x:/%63": 2, "x:/d": 3, "y:/e": 3,
		"": -1, "a": -1, "x:/": -1, "x:/A": -1, "X:/a": -1, "x:/b": -1, "x:/c": -1, "x:/./a": -1, "x:/a?": -1, "x:/a/": -1, "\xff": -1, "x:": -1,
	} {
		found(t, table, uri, want)
		found(t, table, uri+"#", want)
		found(t, table, uri+"##", -1)
		found(t, table, uri+"#%", -1)
	}
	for _, uri := range []string{"", "#", "x:/a", "x:/a#/", "x:/a#b"} {
		found(t, api.Table{}, uri, -1)
	}
}

// P13.5: Find with a pointer, in percents or not, from the resource's own place on, also into another resource; there is none where no schema stands.
func TestFindPointers(t *testing.T) {
	table := read(t,
		doc("x:/a", `{"$defs":{"b":{"$id":"c","not":{"$id":"d","items":{}},"$defs":{"~":true,"/":true,"%":true,"é":true,"":true,"a b":true,"~1":true}}},"allOf":[true,{"not":true}],"enum":[{"not":true}]}`),
		doc("x:/e", `{"$id":"f","not":true}`))
	places := map[string]int{}
	for n, s := range table.Schemas {
		places[strconv.Itoa(s.At.Doc)+s.At.Pointer] = n
	}
	inner := func(p string) int {
		n, ok := places[p]
		if !ok {
			t.Fatal(p)
		}
		return n
	}
	for uri, want := range map[string]int{
		"x:/a#/$defs/b":           inner("0/$defs/b"),
		"x:/a#/%24defs/%62":       inner("0/$defs/b"),
		"x:/a#%2F$defs%2fb":       inner("0/$defs/b"),
		"x:/a#/$defs/b/not":       inner("0/$defs/b/not"),
		"x:/a#/$defs/b/not/items": inner("0/$defs/b/not/items"),
		"x:/c#/not":               inner("0/$defs/b/not"),
		"x:/c#/not/items":         inner("0/$defs/b/not/items"),
		"x:/d#/items":             inner("0/$defs/b/not/items"),
		"x:/c#/$defs/~0":          inner("0/$defs/b/$defs/~0"),
		"x:/c#/$defs/%7E0":        inner("0/$defs/b/$defs/~0"),
		"x:/c#/$defs/~1":          inner("0/$defs/b/$defs/~1"),
		"x:/c#/$defs/%7e%31":      inner("0/$defs/b/$defs/~1"),
		"x:/c#/$defs/%25":         inner("0/$defs/b/$defs/%"),
		"x:/c#/$defs/%C3%A9":      inner("0/$defs/b/$defs/é"),
		"x:/c#/$defs/é":           inner("0/$defs/b/$defs/é"),
		"x:/c#/$defs/":            inner("0/$defs/b/$defs/"),
		"x:/c#/$defs/a%20b":       inner("0/$defs/b/$defs/a b"),
		"x:/c#/$defs/a b":         inner("0/$defs/b/$defs/a b"),
		"x:/c#/$defs/~01":         inner("0/$defs/b/$defs/~01"),
		"x:/a#/allOf/0":           inner("0/allOf/0"),
		"x:/a#/allOf/1/not":       inner("0/allOf/1/not"),
		"x:/e#/not":               inner("1/not"),
		"x:/f#/not":               inner("1/not"),

		"x:/a#/": -1, "x:/a#//": -1, "x:/a#/$defs": -1, "x:/a#/$defs/": -1, "x:/a#/allOf": -1, "x:/a#/allOf/2": -1, "x:/a#/allOf/00": -1, "x:/a#/allOf/-": -1, "x:/a#/allOf/0/": -1,
		"x:/a#/enum/0": -1, "x:/a#/enum/0/not": -1, "x:/a#/not": -1, "x:/d#/not": -1, "x:/c#/$defs/b": -1, "x:/b#/$defs/b": -1, "#/$defs/b": -1,
		"x:/c#/$defs/~": -1, "x:/c#/$defs//": -1, "x:/c#/$defs/~2": -1, "x:/c#/$defs/%2F": -1, "x:/c#/$defs/%": -1, "x:/c#/$defs/%2": -1, "x:/c#/$defs/%C3": -1, "x:/c#/$defs/\xc3": -1, "x:/c#/$defs/%2525": -1,
		"x:/a##/$defs/b": -1, "x:/a#/$defs/b#": -1, "x:/a/$defs/b": -1, "x:/a#$defs/b": -1,
	} {
		found(t, table, uri, want)
	}
}

// P13.5: Find with an anchor of either kind, in percents or not, in the resource that it belongs to alone.
func TestFindAnchors(t *testing.T) {
	table := read(t,
		doc("x:/a", `{"$anchor":"a","not":{"$dynamicAnchor":"b","$anchor":"c-_.1","not":{"$id":"d","$anchor":"b","items":{"$dynamicAnchor":"e"}}}}`),
		doc("x:/f", `{"$id":"g","if":{"$anchor":"b"}}`))
	for uri, want := range map[string]int{
		"x:/a#a": 0, "x:/a#%61": 0, "x:/a#b": 1, "x:/a#c-_.1": 1, "x:/a#c%2D_.1": 1, "x:/d#b": 2, "x:/d#e": 3, "x:/f#b": 5, "x:/g#b": 5,
		"x:/a#A": -1, "x:/a#e": -1, "x:/d#a": -1, "x:/d#c-_.1": -1, "x:/f#a": -1, "x:/b#b": -1, "b": -1, "#b": -1,
		"x:/a# a": -1, "x:/a#a ": -1, "x:/a#a/": -1, "x:/a#%2561": -1, "x:/a#%6": -1, "x:/a#%": -1, "x:/a#a%": -1, "x:/a#%zz": -1, "x:/a#%ff": -1, "x:/a#\xff": -1, "x:/a##a": -1, "x:/a#a#": -1,
	} {
		found(t, table, uri, want)
	}
}

// P13.5, R1: tables that Read did not make: the first of several counts, and a number that is no schema's is none.
func TestWrongTables(t *testing.T) {
	for _, n := range []int{-1, 2, math.MaxInt, math.MinInt} {
		table := api.Table{
			Schemas: []api.Schema{{At: api.Place{Doc: n}, Resource: n}, {At: api.Place{Doc: n, Pointer: "/a"}, Resource: n}},
			Ids:     []api.Id{{Uri: "x:/a", Schema: n}, {Uri: "x:/a", Schema: 1}, {Uri: "x:/b", Schema: 0}, {Uri: "", Schema: 1}},
			Anchors: []api.Anchor{{Resource: 0, Name: "a", Schema: n}, {Resource: 0, Name: "a", Schema: 1}, {Resource: n, Name: "b", Schema: 1}, {Resource: 0, Name: "c", Schema: 1, Dynamic: true}, {Resource: 0, Name: "c"}},
		}
		for uri, want := range map[string]int{
			"x:/a": -1, "x:/a#": -1, "x:/a#/a": -1, "x:/a#a": -1, "x:/a#b": -1, "x:/a#c": -1,
			"x:/b": 0, "x:/b#/a": 1, "x:/b#/b": -1, "x:/b#a": -1, "x:/b#b": -1, "x:/b#c": 1,
			"": 1, "#": 1, "#/a": -1, "#c": -1,
		} {
			found(t, table, uri, want)
		}
		root, e := Root(table, n)
		asked(t, "root", root, e, 0)
	}
	alike := api.Table{Schemas: []api.Schema{{At: api.Place{Doc: 1}}, {At: api.Place{Doc: 0}}, {At: api.Place{Doc: 0}}, {At: api.Place{Doc: 1}}}}
	for number, want := range map[int]int{0: 1, 1: 0} {
		n, e := Root(alike, number)
		asked(t, "alike", n, e, want)
	}
	none := api.Table{Ids: []api.Id{{Uri: "x:/a"}}, Anchors: []api.Anchor{{Name: "a"}}}
	for _, uri := range []string{"x:/a", "x:/a#", "x:/a#a", "x:/a#/a"} {
		found(t, none, uri, -1)
	}
}
