package sat

import (
	"testing"

	"caliper/api"
)

// P19.2: RuAll and RuRef: all Subs take it, and their marks come.
func TestAll(t *testing.T) {
	for _, v := range others("") {
		takes(t, around(asks(api.RuAll)), v)
		takes(t, around(asks(api.RuAll, yes, yes)), v)
		takes(t, around(asks(api.RuRef, yes)), v)
		leaves(t, around(asks(api.RuAll, yes, no)), v)
		leaves(t, around(asks(api.RuAll, no, yes)), v)
		leaves(t, around(asks(api.RuRef, no)), v)
		leaves(t, around(asks(api.RuRef, failing)), v)
		leaves(t, around(asks(api.RuAll, number, text)), v)
	}
	takes(t, around(asks(api.RuAll, number, number, yes)), "1")
	leaves(t, around(asks(api.RuAll, yes, number)), `"a"`, "null")
	takes(t, around(asks(api.RuRef, first)), "[null,1]", 0)
	takes(t, around(asks(api.RuRef, first)), "[]")
	takes(t, around(asks(api.RuRef, first)), `{"b":1,"a":1}`, 1)
	takes(t, around(asks(api.RuAll, first, counted)), `["",1,null,2]`, 0, 1, 3)
	takes(t, around(asks(api.RuAll, counted, first)), `["",1,null,2]`, 0, 1, 3)
	takes(t, around(asks(api.RuAll, first, counted, first)), `{"x":1,"c":2,"y":3,"a":1,"b":1}`, 1, 3, 4)
	takes(t, around(asks(api.RuRef, first), asks(api.RuRef, counted)), `["",1,null,2]`, 0, 1, 3)
	takes(t, around(asks(api.RuAll, short)), "[5,6]", 0, 1)
	leaves(t, around(asks(api.RuAll, first, short)), "[5,6,7]", "8")
	leaves(t, around(asks(api.RuAll, first), asks(api.RuRef, no)), "[5,6,7]", `{"a":1}`)
}

// P19.2: RuAny: some Sub takes it; the marks of all that do come, and of no others.
func TestAny(t *testing.T) {
	for _, v := range others("") {
		leaves(t, around(asks(api.RuAny)), v)
		leaves(t, around(asks(api.RuAny, no, failing)), v)
		takes(t, around(asks(api.RuAny, no, yes)), v)
		takes(t, around(asks(api.RuAny, yes, no)), v)
	}
	takes(t, around(asks(api.RuAny, number, text)), "1")
	takes(t, around(asks(api.RuAny, number, text)), `"a"`)
	leaves(t, around(asks(api.RuAny, number, text)), "null", "[1]")
	takes(t, around(asks(api.RuAny, yes, first, counted)), `["",1,null,2]`, 0, 1, 3)
	takes(t, around(asks(api.RuAny, failing, first, no)), `["",1,null,2]`, 0)
	takes(t, around(asks(api.RuAny, short, first)), `["",1,null]`, 0)
	takes(t, around(asks(api.RuAny, first, short)), `["",1]`, 0, 1)
	takes(t, around(asks(api.RuAny, short, counted)), `{"x":1,"b":1,"a":2}`, 1)
	takes(t, around(asks(api.RuAny, short, counted)), `{"x":1,"b":1}`, 0, 1)
}

// P19.2: RuOne: just one Sub takes it, and its marks come.
func TestOne(t *testing.T) {
	for _, v := range others("") {
		leaves(t, around(asks(api.RuOne)), v)
		leaves(t, around(asks(api.RuOne, no)), v)
		leaves(t, around(asks(api.RuOne, yes, yes)), v)
		leaves(t, around(asks(api.RuOne, yes, no, yes)), v)
		leaves(t, around(asks(api.RuOne, first, counted, no)), v)
		takes(t, around(asks(api.RuOne, yes)), v)
		takes(t, around(asks(api.RuOne, no, failing, yes, no)), v)
	}
	takes(t, around(asks(api.RuOne, number, text)), "1")
	leaves(t, around(asks(api.RuOne, number, number)), "1", `"a"`)
	takes(t, around(asks(api.RuOne, failing, counted, no)), `["",1,null,2]`, 1, 3)
	takes(t, around(asks(api.RuOne, short, first)), `["",1,null]`, 0)
	leaves(t, around(asks(api.RuOne, short, first)), `["",1]`)
}

// P19.2: RuNot: the Sub does not take it; no marks come, not of what is within another RuNot either.
func TestNot(t *testing.T) {
	for _, v := range others("") {
		takes(t, around(asks(api.RuNot, no)), v)
		takes(t, around(asks(api.RuNot, failing)), v)
		leaves(t, around(asks(api.RuNot, yes)), v)
		leaves(t, around(asks(api.RuNot, first)), v)
	}
	takes(t, around(asks(api.RuNot, number)), `"a"`)
	leaves(t, around(asks(api.RuNot, number)), "1", "1.5")
	takes(t, around(asks(api.RuNot, short)), "[1,2,3]")
	p := around(asks(api.RuNot, 9), asks(api.RuRef, counted))
	p.Forms = append(p.Forms, form(asks(api.RuNot, first)))
	takes(t, p, `["a",1]`, 1)
	takes(t, p, `{"a":1,"b":2}`, 1)
}

// P19.2: RuIf: which way it goes, and whose marks come.
func TestIf(t *testing.T) {
	if3 := func(subs ...int) api.Prog { return around(asks(api.RuIf, subs...)) }
	for _, v := range others("") {
		for _, taken := range []int{yes, first} {
			leaves(t, if3(taken, no, yes), v)
			leaves(t, if3(taken, failing, -1), v)
		}
		for _, not := range []int{no, failing} {
			leaves(t, if3(not, yes, no), v)
			leaves(t, if3(not, -1, failing), v)
			takes(t, if3(not, no, -1), v)
			takes(t, if3(not, -1, -1), v)
			takes(t, if3(not, no, yes), v)
			takes(t, if3(not, first, yes), v)
		}
		takes(t, if3(yes, yes, no), v)
		takes(t, if3(yes, -1, no), v)
		takes(t, if3(yes, -1, -1), v)
		takes(t, if3(yes, yes, first), v)
	}
	takes(t, if3(first, -1, -1), `["",1,2]`, 0)
	takes(t, if3(first, -1, no), `["",1,2]`, 0)
	takes(t, if3(first, counted, no), `["",1,2]`, 0, 1, 2)
	takes(t, if3(yes, counted, first), `["",1,2]`, 1, 2)
	takes(t, if3(short, counted, first), `["",1,2]`, 0)
	takes(t, if3(short, counted, -1), `["",1,2]`)
	takes(t, if3(short, yes, no), `["",1]`, 0, 1)
	takes(t, if3(failing, no, counted), `{"a":1,"c":2}`, 1)
	takes(t, if3(first, counted, no), `{"a":1,"c":2,"d":3}`, 0, 1)
	takes(t, if3(counted, counted, counted), `{"a":1,"c":2}`, 1)
	takes(t, if3(number, number, text), "1")
	takes(t, if3(number, number, text), `"a"`)
	leaves(t, if3(number, text, number), "1", `"a"`, "null")
	takes(t, if3(number, text, yes), "null")
	// What is known already when the condition is asked.
	takes(t, around(asks(api.RuRef, first), asks(api.RuIf, first, counted, no)), `["",1]`, 0, 1)
	takes(t, around(asks(api.RuNot, short), asks(api.RuIf, short, no, counted)), `["",1,""]`, 1)
	leaves(t, around(asks(api.RuNot, short), asks(api.RuIf, short, yes, no)), `["",1,""]`)
}

// P19.2: RuWhen asks of objects that have the Name, and its marks come.
func TestWhen(t *testing.T) {
	when := func(name string, sub int) api.Rule {
		return api.Rule{Kind: api.RuWhen, Names: []string{name}, Subs: []int{sub}}
	}
	for _, v := range append(others("object"), "{}", `{"b":1}`, `{"A":1}`, `[{"a":1}]`, `"a"`) {
		takes(t, around(when("a", no)), v)
	}
	leaves(t, around(when("a", no)), `{"a":1}`, `{"b":2,"a":null}`)
	leaves(t, around(when("a", failing)), `{"a":1}`)
	takes(t, around(when("a", first)), `{"b":2,"a":null}`, 1)
	takes(t, around(when("b", first)), `{"b":2,"a":null}`, 1)
	takes(t, around(when("c", first)), `{"b":2,"a":null}`)
	takes(t, around(when("", first)), `{"":2,"a":null}`, 1)
	leaves(t, around(when("a", number)), `{"a":1}`)
}

// P19.2: RuPrefix asks Sub by Sub, as far as there are both, and marks what it asks.
func TestPrefix(t *testing.T) {
	p := around(asks(api.RuPrefix, number, text))
	for _, v := range others("array") {
		takes(t, p, v)
	}
	takes(t, p, "[]")
	takes(t, p, "[1]", 0)
	takes(t, p, `[1,"a"]`, 0, 1)
	takes(t, p, `[1,"a",1,null]`, 0, 1)
	leaves(t, p, `["a"]`, "[1,1]", `["a",1]`, `["a","a"]`, "[[1]]")
	takes(t, around(asks(api.RuPrefix)), "[1,2]")
	takes(t, around(asks(api.RuPrefix, yes, yes)), "[1,2,3]", 0, 1)
	leaves(t, around(asks(api.RuPrefix, yes, no)), "[1,2]")
	takes(t, around(asks(api.RuPrefix, yes, no)), "[1]", 0)
}

// P19.2: RuItems asks each from place N on, and marks what it asks.
func TestItems(t *testing.T) {
	items := func(n, sub int) api.Prog { return around(api.Rule{Kind: api.RuItems, N: n, Subs: []int{sub}}) }
	for _, v := range others("array") {
		takes(t, items(0, no), v)
	}
	takes(t, items(0, number), "[]")
	takes(t, items(0, number), "[1,2,3]", 0, 1, 2)
	leaves(t, items(0, number), `["a"]`, `[1,"a"]`, `["a",1]`, `[1,2,null]`, "[[1]]")
	takes(t, items(1, number), `["a"]`)
	takes(t, items(1, number), `["a",1,2]`, 1, 2)
	leaves(t, items(1, number), `["a","a"]`, `[1,2,"a"]`)
	takes(t, items(2, no), "[1,2]")
	leaves(t, items(2, no), "[1,2,3]")
	takes(t, items(1000000000, no), "[1,2,3]")
}

// P19.2: RuContains asks each; those that are taken are marked, and there are N of them at least, M at most.
func TestContains(t *testing.T) {
	contains := func(n, m, sub int) api.Prog {
		return around(api.Rule{Kind: api.RuContains, N: n, M: m, Subs: []int{sub}})
	}
	for _, v := range others("array") {
		takes(t, contains(1, -1, no), v)
		takes(t, contains(3, 2, yes), v)
	}
	takes(t, contains(1, -1, number), `["",1,null,2,[]]`, 1, 3)
	takes(t, contains(1, -1, number), "[1]", 0)
	leaves(t, contains(1, -1, number), "[]", `[""]`, `["",null,[1]]`)
	takes(t, contains(0, -1, number), "[]")
	takes(t, contains(0, -1, no), "[1,2]")
	takes(t, contains(0, -1, number), `["",5]`, 1)
	takes(t, contains(2, 3, number), `[1,2]`, 0, 1)
	takes(t, contains(2, 3, number), `[1,"",2,"",3]`, 0, 2, 4)
	leaves(t, contains(2, 3, number), "[]", `[1,""]`, `[1,2,3,4]`, `[1,2,"",3,4]`)
	takes(t, contains(0, 0, number), `["",null]`)
	takes(t, contains(0, 0, number), "[]")
	leaves(t, contains(0, 0, number), `["",1]`, "[1]")
	leaves(t, contains(2, 1, number), "[]", "[1]", "[1,2]", "[1,2,3]")
	leaves(t, contains(1000000000, -1, yes), "[1,2]")
	takes(t, contains(0, 1000000000, yes), "[1,2]", 0, 1)
}

// P19.2: RuProps asks the member of each Name that it has, by its Sub.
func TestProps(t *testing.T) {
	props := func(names []string, subs ...int) api.Prog {
		return around(api.Rule{Kind: api.RuProps, Names: names, Subs: subs})
	}
	p := props([]string{"b", "", "a"}, number, text, yes)
	for _, v := range others("object") {
		takes(t, p, v)
		takes(t, props([]string{"a"}, no), v)
	}
	takes(t, p, "{}")
	takes(t, p, `{"c":1,"B":""}`)
	takes(t, p, `{"c":1,"b":2}`, 1)
	takes(t, p, `{"":"x","c":1,"a":null,"b":2}`, 0, 2, 3)
	leaves(t, p, `{"":1}`, `{"b":"x","a":1}`, `{"a":1,"b":[]}`)
	takes(t, props(nil), `{"a":1}`)
	// A Name that is there twice asks twice.
	takes(t, props([]string{"a", "a"}, yes, number), `{"a":1}`, 0)
	leaves(t, props([]string{"a", "a"}, yes, number), `{"a":""}`)
	leaves(t, props([]string{"a", "a"}, number, yes), `{"a":""}`)
}

// P19.2: RuMatching asks each member in whose key the pattern is found, pattern by pattern.
func TestMatching(t *testing.T) {
	matching := func(pats []string, subs ...int) api.Prog {
		return around(api.Rule{Kind: api.RuMatching, Pats: pats, Subs: subs})
	}
	p := matching([]string{"^a", "b$"}, number, text)
	for _, v := range others("object") {
		takes(t, p, v)
		takes(t, matching([]string{""}, no), v)
	}
	takes(t, p, "{}")
	takes(t, p, `{"c":1,"ba":2}`)
	takes(t, p, `{"c":1,"a":2,"ac":3,"b":"x"}`, 1, 2, 3)
	leaves(t, p, `{"ab":1}`, `{"ab":"x"}`, `{"a":"x"}`, `{"a":1,"b":2}`)
	takes(t, matching([]string{"a", "a"}, yes, number), `{"xax":1}`, 0)
	leaves(t, matching([]string{"a", "a"}, yes, number), `{"a":""}`)
	takes(t, matching(nil), `{"a":1}`)
	leaves(t, matching([]string{""}, no), `{"":1}`)
	takes(t, matching([]string{"é"}, yes), `{"e":1,"xé":2}`, 1)
}

// P19.2: RuRest asks each member whose key is none of Names, and in whose key none of Pats is found.
func TestRest(t *testing.T) {
	rest := func(names, pats []string, sub int) api.Prog {
		return around(api.Rule{Kind: api.RuRest, Names: names, Pats: pats, Subs: []int{sub}})
	}
	p := rest([]string{"a", "", "z"}, []string{"^b", "c$"}, number)
	for _, v := range others("object") {
		takes(t, p, v)
		takes(t, rest(nil, nil, no), v)
	}
	takes(t, p, "{}")
	takes(t, p, `{"a":"","":"","b":"","c":"","bx":"","xc":""}`)
	takes(t, p, `{"a":"","d":1,"b":"","A":2,"cx":3}`, 1, 3, 4)
	leaves(t, p, `{"d":""}`, `{"a":1,"aa":""}`, `{"ab":""}`, `{"cb":""}`)
	takes(t, rest(nil, nil, yes), `{"a":1,"b":2}`, 0, 1)
	leaves(t, rest(nil, nil, no), `{"a":1}`)
	takes(t, rest([]string{"a", "a"}, nil, no), `{"a":1}`)
	takes(t, rest(nil, []string{""}, no), `{"a":1}`)
}

// P19.2: RuNames asks each key, as a string, and leaves no marks.
func TestNames(t *testing.T) {
	names := func(sub int) api.Prog {
		p := around(asks(api.RuNames, sub))
		p.Forms = append(p.Forms, form(counting(api.RuLongest, 1)), form(vals(api.RuEnum, `["a","é"]`)))
		return p
	}
	for _, v := range others("object") {
		takes(t, names(no), v)
	}
	takes(t, names(no), "{}")
	takes(t, names(text), `{"a":1,"b":{}}`)
	takes(t, names(yes), `{"a":1,"b":{}}`)
	takes(t, names(first), `{"a":1,"b":{}}`)
	leaves(t, names(number), `{"1":1}`)
	leaves(t, names(no), `{"":1}`)
	takes(t, names(9), `{"a":[1,2],"😀":"abc"}`)
	leaves(t, names(9), `{"a":1,"bc":1}`, `{"bc":1,"a":1}`)
	takes(t, names(10), `{"\u00e9":1,"a":1}`)
	leaves(t, names(10), `{"a":1,"b":1}`)
	leaves(t, around(asks(api.RuNames, yes), asks(api.RuLeftProps, no)), `{"a":1}`)
	// A key is not the value that stands at its place.
	leaves(t, around(asks(api.RuNames, text), asks(api.RuRest, text)), `{"a":1}`)
	leaves(t, around(asks(api.RuRest, number), asks(api.RuNames, number)), `{"a":1}`)
}
