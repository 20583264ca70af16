package scope

import (
	"reflect"
	"slices"
	"testing"

	"caliper/api"
)

// rich is a program with lists of all kinds, many of which are one and the same; each of its forms but the first has several instances.
func rich() api.Prog {
	names, pats, subs := []string{"a", "b", "d"}, []string{"^", "a"}, []int{1, 2, 3}
	vals := parsed(`[{"b":[1,{"c":[]}],"a":"x"},[[],["y"]]]`).List
	vals[1].List[1].List = vals[0].List[0].List
	same := api.Rule{Kind: api.RuRest, Names: names, Pats: pats, Subs: subs[:1]}
	rules := []api.Rule{
		{Kind: api.RuEnum, Vals: vals}, {Kind: api.RuConst, Vals: vals[:1]}, same, same, {Kind: api.RuRequired, Names: names},
		{Kind: api.RuDynamic, Names: names[2:], Subs: subs[2:]}, {Kind: api.RuMatching, Pats: pats, Subs: subs[:2]},
		asking(api.RuAll, subs...), asking(api.RuPrefix, subs...), asking(api.RuIf, 1, -1, 2), {Kind: api.RuAny, Subs: subs[:0]}, {Kind: api.RuRequired, Names: names[:0]},
	}
	return api.Prog{
		Forms: []api.Form{form(0, rules...), form(1, rules...), form(2, rules[:4]...), form(3, rules[4:]...), form(0, ref(0), ref(1))},
		Dyns:  []api.Dyn{dyn("d", 1, 2), dyn("d", 2, 3), dyn("", 2, 3), dyn("d", 3, 1)},
		Root:  4,
	}
}

// spoil changes all that a program's lists hold, down to the innermost.
func spoil(p api.Prog) {
	for i := range p.Forms {
		for _, r := range p.Forms[i].Rules {
			for j := range r.Names {
				r.Names[j] = "spoilt"
			}
			for j := range r.Pats {
				r.Pats[j] = "spoilt"
			}
			for j := range r.Subs {
				r.Subs[j] = -99
			}
			spoilValues(r.Vals)
		}
		clear(p.Forms[i].Rules)
		p.Forms[i] = api.Form{Resource: -99}
	}
	for i := range p.Dyns {
		p.Dyns[i] = api.Dyn{Name: "spoilt"}
	}
}

func spoilValues(row []api.Value) {
	for i := range row {
		for j := range row[i].Keys {
			row[i].Keys[j] = "spoilt"
		}
		spoilValues(row[i].List)
		row[i] = api.Value{Kind: api.String, Text: "spoilt"}
	}
}

// R3: what is handed in is not changed, not by the call and not by what is done to its answer; and nothing of it is kept.
func TestHandedInStays(t *testing.T) {
	p := rich()
	first, numbers, errno := Close(p, 99)
	if errno != api.OK || len(numbers) < 9 {
		t.Fatal(errno, numbers)
	}
	spoil(first)
	clear(numbers)
	if !reflect.DeepEqual(p, rich()) {
		t.Errorf("changed to\n%s", told(p))
	}
	first, numbers, _ = Close(p, 99)
	second, others, _ := Close(p, 99)
	text := told(first)
	if told(second) != text || !slices.Equal(numbers, others) {
		t.Error("the same call answers something else")
	}
	spoil(p)
	spoil(second)
	if told(first) != text {
		t.Error("what was handed in is kept")
	}
	for _, most := range []int{0, 1, len(numbers) - 1} {
		p = rich()
		refused(t, p, most, api.ErrMany)
		if !reflect.DeepEqual(p, rich()) {
			t.Errorf("changed to\n%s", told(p))
		}
	}
}

// block is a row of bytes in memory.
type block struct {
	from, to uintptr
}

// blocks adds those of all lists in v, with the room behind their ends.
func blocks(v reflect.Value, all *[]block) {
	switch v.Kind() {
	case reflect.Struct:
		for i := range v.NumField() {
			blocks(v.Field(i), all)
		}
	case reflect.Slice:
		if v.Cap() > 0 {
			*all = append(*all, block{v.Pointer(), v.Pointer() + uintptr(v.Cap())*v.Type().Elem().Size()})
		}
		for i := range v.Len() {
			blocks(v.Index(i), all)
		}
	}
}

// R3: no two lists of an answer share memory, and none shares any with what was handed in.
func TestNewMemory(t *testing.T) {
	c := chance(3)
	for i := range 300 {
		p := rich()
		if i > 0 {
			p = c.program(1+c.below(7), c.below(9), []string{"a", "b"})
		}
		q, numbers, _ := Close(p, 1000)
		var old, made []block
		blocks(reflect.ValueOf(p), &old)
		blocks(reflect.ValueOf(q), &made)
		blocks(reflect.ValueOf(numbers), &made)
		slices.SortFunc(made, func(a, b block) int { return int(int64(a.from) - int64(b.from)) })
		for j, b := range made {
			if j > 0 && made[j-1].to > b.from {
				t.Fatalf("two lists share memory:\n%s", told(q))
			}
			if slices.ContainsFunc(old, func(o block) bool { return o.from < b.to && b.from < o.to }) {
				t.Fatalf("a list is not new:\n%s", told(q))
			}
		}
	}
}

// R3: Names are the caller's own, and nothing of what was handed in changes.
func TestNamesAreNew(t *testing.T) {
	p := three()
	got := Names(p)
	got[0] = "x"
	if again := Names(p); !slices.Equal(again, []string{"b", "a", ""}) || !slices.Equal(p.Dyns, three().Dyns) {
		t.Error(again, p.Dyns)
	}
}

// R3, R7: an empty list is as good as none, and what stands behind a list's end is nobody's.
func TestEmptyLists(t *testing.T) {
	dyns := []api.Dyn{dyn("n", 0, 1), dyn("n", 0, 1)}
	rules := []api.Rule{{Kind: api.RuAll, Names: []string{}, Vals: []api.Value{}, Pats: []string{}, Subs: []int{}}, {Kind: 99}}
	p := api.Prog{Forms: []api.Form{{Rules: rules[:1]}, {Rules: rules[:0]}, {Resource: 77}}[:2], Dyns: dyns[:0]}
	closed(t, p, []int{0}, form(0, asking(api.RuAll)))
	p.Dyns = dyns[:1]
	closed(t, p, []int{0}, form(0, asking(api.RuAll)))
	p.Root = 1
	closed(t, p, []int{1}, form(0))
	if got := Names(p); !slices.Equal(got, []string{"n"}) {
		t.Error(got)
	}
	if got := Enter(p, []int{-1}, 0); !slices.Equal(got, []int{1}) {
		t.Error(got)
	}
}
