package sat

import (
	"testing"

	"caliper/api"
)

// P19.2: RuLeftItems asks each element without a mark so far, of arrays alone, and marks what it asks.
func TestLeftItems(t *testing.T) {
	left := func(sub int, ahead ...api.Rule) api.Prog { return around(append(ahead, asks(api.RuLeftItems, sub))...) }
	for _, v := range others("array") {
		takes(t, left(no), v)
	}
	takes(t, left(no), "[]")
	takes(t, left(number), "[1,2]", 0, 1)
	leaves(t, left(number), `[1,""]`, `["",1]`)
	leaves(t, left(no), "[1]")
	takes(t, left(no, asks(api.RuPrefix, yes, yes)), "[1,2]", 0, 1)
	leaves(t, left(no, asks(api.RuPrefix, yes, yes)), "[1,2,3]")
	takes(t, left(text, asks(api.RuPrefix, number)), `[1,"a","b"]`, 0, 1, 2)
	leaves(t, left(text, asks(api.RuPrefix, number)), `[1,2]`, `["a","b"]`)
	takes(t, left(no, asks(api.RuItems, yes)), "[1,2,3]", 0, 1, 2)
	leaves(t, left(no, api.Rule{Kind: api.RuItems, N: 1, Subs: []int{yes}}), "[1,2,3]")
	takes(t, left(text, api.Rule{Kind: api.RuContains, N: 1, M: -1, Subs: []int{number}}), `["a",1,"b",2]`, 0, 1, 2, 3)
	leaves(t, left(text, api.Rule{Kind: api.RuContains, M: -1, Subs: []int{number}}), `["a",1,null]`)
	// Marks that come of forms that are asked of the value itself.
	for _, r := range []api.Rule{
		asks(api.RuRef, first), asks(api.RuAll, yes, first), asks(api.RuAny, no, first, yes), asks(api.RuOne, no, first, failing),
		asks(api.RuIf, first, -1, no), asks(api.RuIf, yes, first, no), asks(api.RuIf, no, counted, first), asks(api.RuIf, failing, -1, first),
		{Kind: api.RuDynamic, Names: []string{"d"}, Subs: []int{first}},
	} {
		takes(t, left(text, r), `[1,"a","b"]`, 0, 1, 2)
		takes(t, left(no, r), "[1]", 0)
		leaves(t, left(no, r), "[1,2]")
	}
	// And none of what does not take it, or what a RuNot asks.
	for _, r := range []api.Rule{
		asks(api.RuNot, failing), asks(api.RuAny, failing, yes), asks(api.RuOne, yes, failing), asks(api.RuIf, failing, -1, -1), asks(api.RuIf, failing, first, yes),
		{Kind: api.RuContains, M: -1, Subs: []int{failing}}, {Kind: api.RuWhen, Names: []string{"a"}, Subs: []int{first}}, {Kind: api.RuUnique},
	} {
		takes(t, left(number, r), "[1,2]", 0, 1)
		leaves(t, left(text, r), `[1,"a"]`)
	}
}

// P19.2: RuLeftProps asks each member without a mark so far, of objects alone, and marks what it asks.
func TestLeftProps(t *testing.T) {
	left := func(sub int, ahead ...api.Rule) api.Prog { return around(append(ahead, asks(api.RuLeftProps, sub))...) }
	for _, v := range others("object") {
		takes(t, left(no), v)
	}
	takes(t, left(no), "{}")
	takes(t, left(number), `{"b":1,"a":2}`, 0, 1)
	leaves(t, left(number), `{"b":1,"a":""}`, `{"b":"","a":1}`)
	leaves(t, left(no), `{"":1}`)
	takes(t, left(no, api.Rule{Kind: api.RuProps, Names: []string{"a", "c"}, Subs: []int{yes, yes}}), `{"c":1,"a":2}`, 0, 1)
	leaves(t, left(no, api.Rule{Kind: api.RuProps, Names: []string{"a", "c"}, Subs: []int{yes, yes}}), `{"c":1,"b":2}`)
	takes(t, left(text, api.Rule{Kind: api.RuMatching, Pats: []string{"a"}, Subs: []int{number}}), `{"b":"x","xa":1}`, 0, 1)
	leaves(t, left(text, api.Rule{Kind: api.RuMatching, Pats: []string{"a"}, Subs: []int{number}}), `{"b":1,"xa":1}`)
	takes(t, left(text, api.Rule{Kind: api.RuRest, Names: []string{"a"}, Pats: []string{"b"}, Subs: []int{number}}), `{"b":"x","a":"x","c":1}`, 0, 1, 2)
	leaves(t, left(text, api.Rule{Kind: api.RuRest, Names: []string{"a"}, Pats: []string{"b"}, Subs: []int{number}}), `{"b":"x","a":1}`, `{"c":"x"}`)
	for _, r := range []api.Rule{
		asks(api.RuRef, first), asks(api.RuAll, first, yes), asks(api.RuAny, yes, first), asks(api.RuOne, no, first), asks(api.RuIf, first, yes, no),
		{Kind: api.RuWhen, Names: []string{"a"}, Subs: []int{first}}, {Kind: api.RuDynamic, Names: []string{"d"}, Subs: []int{first}},
	} {
		takes(t, left(text, r), `{"b":"x","a":1}`, 0, 1)
		leaves(t, left(text, r), `{"b":1,"a":1}`)
		leaves(t, left(no, r), `{"b":1,"a":1}`)
		takes(t, left(no, r), `{"a":1}`, 0)
	}
	takes(t, left(number, api.Rule{Kind: api.RuWhen, Names: []string{"c"}, Subs: []int{first}}), `{"a":1}`, 0)
	leaves(t, left(text, api.Rule{Kind: api.RuWhen, Names: []string{"c"}, Subs: []int{first}}), `{"a":1}`)
}

// P19.2: marks so far are those of the rules ahead alone; what one RuLeft rule asked is marked for the next one.
func TestLeftInOrder(t *testing.T) {
	p := around(asks(api.RuLeftItems, number), asks(api.RuLeftItems, no))
	takes(t, p, "[1,2]", 0, 1)
	leaves(t, p, `[1,""]`)
	p = around(asks(api.RuLeftItems, number), asks(api.RuPrefix, yes, yes))
	takes(t, p, "[1,2,3]", 0, 1, 2)
	leaves(t, p, `["",2]`)
	p = around(asks(api.RuPrefix, yes), asks(api.RuLeftItems, text), asks(api.RuLeftItems, no), api.Rule{Kind: api.RuItems, N: 1, Subs: []int{yes}}, asks(api.RuLeftItems, no))
	takes(t, p, `[1,"a","b"]`, 0, 1, 2)
	leaves(t, p, `[1,"a",2]`)
	p = around(asks(api.RuRef, first), asks(api.RuLeftProps, number), asks(api.RuLeftProps, no), asks(api.RuLeftProps, text))
	takes(t, p, `{"b":1,"a":"x","c":2}`, 0, 1, 2)
	leaves(t, p, `{"b":1,"a":"x","c":"x"}`)
	p = around(asks(api.RuLeftItems, yes), asks(api.RuLeftProps, no))
	takes(t, p, "[1]", 0)
	leaves(t, p, `{"a":1}`)
	// The marks of one form are not those of another one that asks of the same value.
	p = around(asks(api.RuRef, first), asks(api.RuRef, 9))
	p.Forms = append(p.Forms, form(asks(api.RuLeftItems, text)))
	leaves(t, p, `[1,"a"]`)
	takes(t, p, `["a","b"]`, 0, 1)
	// And those of an element are not those of the array it is in.
	p = around(asks(api.RuPrefix, 9, 9), asks(api.RuLeftItems, no))
	p.Forms = append(p.Forms, form(asks(api.RuPrefix, yes, yes, yes)))
	takes(t, p, "[[1,2,3],[4]]", 0, 1)
	leaves(t, p, "[[1,2,3],[4],5]")
}

// P19.2: numbers of marks past those that one word has, in places that rise.
func TestManyMarks(t *testing.T) {
	for _, many := range []int{1, 62, 63, 64, 65, 127, 128, 129, 1000} {
		v, want := api.Value{Kind: api.Array}, []int{}
		for i := range many {
			v.List = append(v.List, parsed([]string{"1", `"a"`, "null"}[i%3]))
			if i%3 < 2 {
				want = append(want, i)
			}
		}
		marking := func(sub int) api.Rule { return api.Rule{Kind: api.RuContains, M: -1, Subs: []int{sub}} }
		for _, rules := range [][]api.Rule{
			{marking(number), marking(text)}, {marking(text), marking(number)}, {marking(number), marking(text), marking(number)},
		} {
			marked(t, around(rules...), v, want)
			p := around(asks(api.RuAll, 9, 10, 9))
			p.Forms = append(p.Forms, form(rules[0]), form(rules[1]))
			marked(t, p, v, want)
			p.Forms[tried].Rules = append(p.Forms[tried].Rules, asks(api.RuLeftItems, yes))
			all := make([]int, many)
			for i := range all {
				all[i] = i
			}
			marked(t, p, v, all)
		}
	}
}
