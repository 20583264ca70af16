package sat

import (
	"reflect"
	"slices"
	"testing"

	"caliper/api"
)

// rich is a program with lists of all kinds, many of which are one and the same, of rules of all kinds.
func rich() api.Prog {
	names, pats, subs := []string{"a", "b", "d"}, []string{"^", "a"}, []int{yes, first, counted}
	list := parsed(`[{"b":[1,{"c":[]}],"a":"x"},[[],["y"]],[1,"a",2]]`).List
	list[1].List[1].List = list[0].List[0].List
	same := api.Rule{Kind: api.RuRest, Names: names, Pats: pats, Subs: subs[:1]}
	p := around(
		typed("object array"), api.Rule{Kind: api.RuEnum, Vals: list}, same, same, api.Rule{Kind: api.RuRequired, Names: names[:0]}, dynamic(names[2], subs[2]),
		api.Rule{Kind: api.RuMatching, Pats: pats, Subs: subs[:2]}, asks(api.RuAll, subs...), asks(api.RuPrefix, subs...), asks(api.RuIf, yes, -1, no), asks(api.RuOne, subs[:1]...),
		api.Rule{Kind: api.RuProps, Names: names, Subs: subs}, asks(api.RuNames, text), asks(api.RuLeftItems, number), asks(api.RuLeftProps, yes), api.Rule{Kind: api.RuUnique},
		api.Rule{Kind: api.RuDepends, Names: names[:2]}, asks(api.RuNot, number),
	)
	p.Dyns = []api.Dyn{dyn("d", tried, first), dyn("e", yes, counted)}
	return p
}

// R3: what is handed in stays as it was, also when the answer is spoilt, and nothing of it is kept.
func TestHandedInStays(t *testing.T) {
	values := []string{`{"b":[1,{"c":[]}],"a":"x"}`, `[1,"a",2]`, "[1]", `{"a":1}`, "7"}
	for i, text := range values {
		p, v := rich(), parsed(text)
		fine(t, p)
		ok, l, errno := Sat(p, v)
		if ok != (i < 2) || errno != api.OK || len(l) != []int{2, 3, 0, 0, 0}[i] {
			t.Fatal(text, ok, l, errno)
		}
		was := slices.Clone(l)
		for j := range l {
			l[j] = -1
		}
		_ = append(l, 5)
		if !reflect.DeepEqual(p, rich()) || !reflect.DeepEqual(v, parsed(text)) {
			t.Errorf("%s changed\n%s", text, told(p))
		}
		again, l, _ := Sat(p, v)
		if again != ok || !slices.Equal(l, was) {
			t.Error("the same call answers something else:", again, l)
		}
		clear(p.Forms)
		clear(v.List)
		clear(v.Keys)
		if !slices.Equal(l, was) {
			t.Error("what was handed in is kept:", l)
		}
	}
	p := rich()
	Check(p)
	if !reflect.DeepEqual(p, rich()) {
		t.Errorf("Check changed\n%s", told(p))
	}
}

// R3, R4: two answers are two lists, and no call knows of another one.
func TestNewMemory(t *testing.T) {
	p, v := around(asks(api.RuRef, short)), parsed("[1,2]")
	_, a, _ := Sat(p, v)
	_, b, _ := Sat(p, v)
	if !slices.Equal(a, b) || &a[0] == &b[0] {
		t.Fatal(a, b)
	}
	a[0], a[1] = 7, 8
	if !slices.Equal(b, []int{0, 1}) {
		t.Error(b)
	}
	leaves(t, p, "[1,2,3]")
	takes(t, p, "[1,2]", 0, 1)
	p.Forms[short].Never = true
	p.Forms[short].Rules = nil
	leaves(t, p, "[1,2]")
}

// R3, R7: empty lists are as good as none, and what stands behind a list's end is nobody's.
func TestEmptyLists(t *testing.T) {
	empty := api.Rule{Kind: api.RuAll, Names: []string{}, Vals: []api.Value{}, Pats: []string{}, Subs: []int{}}
	for _, kind := range []api.RuleKind{api.RuAll, api.RuUnique, api.RuRequired, api.RuPrefix, api.RuProps, api.RuMatching, api.RuLongest} {
		empty.Kind = kind
		p := around(empty)
		p.Dyns = []api.Dyn{}
		p.Forms[yes].Rules = []api.Rule{}
		for _, v := range []string{"null", `""`, "[]", "{}", "1"} {
			takes(t, p, v)
		}
	}
	empty.Kind = api.RuAny
	leaves(t, around(empty), "null", "[]")
	empty.Kind = api.RuEnum
	leaves(t, around(empty), "null", "[]")
	rules, subs, list := []api.Rule{asks(api.RuAll, yes), asks(api.RuRef, no)}, []int{yes, no}, []api.Value{{}, {Kind: 7}}
	p := around(rules[:1]...)
	p.Forms = p.Forms[:9:9]
	p.Forms[tried].Rules = append(p.Forms[tried].Rules[:1:1], asks(api.RuPrefix, subs[:1]...))
	for _, v := range []api.Value{{Kind: api.Array, List: list[:1]}, {Kind: api.Object, List: list[:1], Keys: []string{"a", "a"}[:1]}, {Kind: api.Array, Keys: []string{"a"}[:0], List: list[:0]}} {
		if ok, _, errno := Sat(p, v); !ok || errno != api.OK {
			t.Error(v, ok, errno)
		}
	}
}
