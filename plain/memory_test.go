package plain

import (
	"math"
	"reflect"
	"slices"
	"testing"

	"caliper/api"
)

// rich is a program with lists of all kinds, of rules that stay, turn, go and fail; many of its lists are one and the same.
func rich() api.Prog {
	names, pats, subs := []string{"a", "b", "d"}, []string{"^", "a"}, []int{x, y, z}
	vals := parsed(`[{"b":[1,{"c":[]}],"a":"x"},[[],["y"]]]`).List
	vals[1].List[1].List = vals[0].List[0].List
	same := api.Rule{Kind: api.RuRest, Names: names, Pats: pats, Subs: subs[:1]}
	p := around(
		api.Rule{Kind: api.RuEnum, Vals: vals}, api.Rule{Kind: api.RuEnum, Vals: vals[:1]}, api.Rule{Kind: api.RuConst, Vals: vals[1:]}, same, same,
		api.Rule{Kind: api.RuRequired, Names: names}, api.Rule{Kind: api.RuDynamic, Names: names[2:], Subs: subs[2:]}, api.Rule{Kind: api.RuMatching, Pats: pats, Subs: subs[:2]},
		asking(api.RuAll, subs...), asking(api.RuAny, subs...), asking(api.RuOne, subs...), asking(api.RuPrefix, subs...), asking(api.RuIf, y, x, n), asking(api.RuOne, n, x), asking(api.RuNot, n),
	)
	all := p.Forms[tried].Rules
	p.Forms = append(p.Forms, api.Form{Rules: all}, api.Form{Rules: all[:4]}, api.Form{Rules: []api.Rule{asking(api.RuAll, n, 7), same}}, api.Form{Rules: []api.Rule{asking(api.RuOne, y), asking(api.RuRef, y)}})
	return p
}

// calls are Once and Simplify.
func calls() map[string]func(api.Prog) api.Prog {
	return map[string]func(api.Prog) api.Prog{
		"Once":     func(p api.Prog) api.Prog { q, _ := Once(p); return q },
		"Simplify": func(p api.Prog) api.Prog { q, _, _ := Simplify(p); return q },
	}
}

// spoil changes all that a program's lists hold, down to the innermost.
func spoil(p api.Prog) {
	for i := range p.Forms {
		for _, r := range p.Forms[i].Rules {
			for j := range r.Names {
				r.Names[j] = "spoilt"
			}
			for j := range r.Pats {
				r.Pats[j] = "spoilt"
			}
			for j := range r.Subs {
				r.Subs[j] = -99
			}
			spoilValues(r.Vals)
		}
		clear(p.Forms[i].Rules)
		p.Forms[i] = api.Form{Resource: -99}
	}
	for i := range p.Dyns {
		p.Dyns[i] = api.Dyn{Name: "spoilt"}
	}
}

func spoilValues(row []api.Value) {
	for i := range row {
		for j := range row[i].Keys {
			row[i].Keys[j] = "spoilt"
		}
		spoilValues(row[i].List)
		row[i] = api.Value{Kind: api.String, Text: "spoilt"}
	}
}

// R3: what is handed in is not changed, not by the call and not by what is done to its answer.
func TestHandedInStays(t *testing.T) {
	for name, call := range calls() {
		p := rich()
		spoil(call(p))
		if !reflect.DeepEqual(p, rich()) {
			t.Errorf("%s changed\n%s", name, told(p))
		}
		first, second := call(p), call(p)
		if told(first) != told(second) || told(call(rich())) != told(first) {
			t.Error(name, "answers something else to the same call")
		}
		text := told(first)
		spoil(p)
		spoil(second)
		if told(first) != text {
			t.Error(name, "keeps what was handed in")
		}
	}
}

// block is a row of bytes in memory.
type block struct {
	from, to uintptr
}

// blocks adds those of all lists in v, with the room behind their ends.
func blocks(v reflect.Value, all *[]block) {
	switch v.Kind() {
	case reflect.Struct:
		for i := range v.NumField() {
			blocks(v.Field(i), all)
		}
	case reflect.Slice:
		if v.Cap() > 0 {
			*all = append(*all, block{v.Pointer(), v.Pointer() + uintptr(v.Cap())*v.Type().Elem().Size()})
		}
		for i := range v.Len() {
			blocks(v.Index(i), all)
		}
	}
}

// R3: no two lists of an answer share memory, and none shares any with what was handed in.
func TestNewMemory(t *testing.T) {
	for name, call := range calls() {
		c := chance(3)
		for i := range 300 {
			p := rich()
			if i > 0 {
				p = c.program()
			}
			q := call(p)
			var old, made []block
			blocks(reflect.ValueOf(p), &old)
			blocks(reflect.ValueOf(q), &made)
			slices.SortFunc(made, func(a, b block) int { return int(int64(a.from) - int64(b.from)) })
			for j, b := range made {
				if j > 0 && made[j-1].to > b.from {
					t.Fatalf("%s: two lists share memory:\n%s", name, told(q))
				}
				if slices.ContainsFunc(old, func(o block) bool { return o.from < b.to && b.from < o.to }) {
					t.Fatalf("%s: a list is not new:\n%s", name, told(q))
				}
			}
		}
	}
}

// R3: an empty list is as good as none.
func TestEmptyLists(t *testing.T) {
	with := func(rules []api.Rule, names []string, vals []api.Value, subs []int) api.Prog {
		for i := range rules {
			r := &rules[i]
			r.Names, r.Vals, r.Pats, r.Subs = names, vals, names, subs
		}
		return api.Prog{Forms: []api.Form{{Rules: rules}, {Rules: []api.Rule{}}, {Never: true, Rules: []api.Rule{}}}, Dyns: []api.Dyn{}}
	}
	for _, kind := range []api.RuleKind{api.RuEnum, api.RuShortest, api.RuUnique, api.RuRequired, api.RuAll, api.RuAny, api.RuOne, api.RuPrefix, api.RuProps, api.RuMatching} {
		rules := func() []api.Rule { return []api.Rule{{Kind: kind}, {Kind: api.RuUnique}} }
		empty, none := with(rules(), []string{}, []api.Value{}, []int{}), with(rules(), nil, nil, nil)
		none.Dyns, none.Forms[1].Rules, none.Forms[2].Rules = nil, nil, nil
		once(t, empty, model(none))
		once(t, none, model(empty))
		want, number := lasting(none)
		simplified(t, empty, number, want)
		simplified(t, none, number, want)
	}
}

// R7: what stands behind a list's end is nobody's.
func TestRoomBehind(t *testing.T) {
	subs, names, vals := []int{y, n, x}, []string{"a", "b"}, make([]api.Value, 2)
	rules := []api.Rule{asking(api.RuAll, subs[:1]...), asking(api.RuAny, subs[:0]...), {Kind: api.RuDepends, Names: names[:1]}, {Kind: api.RuEnum, Vals: vals[:1]}, {Kind: api.RuRequired, Names: names[:0]}, asking(api.RuNot, y)}
	want := around()
	want.Forms[tried].Never = true
	once(t, around(rules...), want)
	once(t, around(rules[:1]...), around())
	once(t, around(rules[:1:1]...), around())
	once(t, around(rules[2:5]...), around(api.Rule{Kind: api.RuConst, Vals: make([]api.Value, 1)}))
	if !slices.Equal(subs, []int{y, n, x}) || rules[5].Kind != api.RuNot {
		t.Error(subs, rules)
	}
}

// refused asks for ErrIR and zeros, and that nothing was changed.
func refused(t *testing.T, p api.Prog) {
	t.Helper()
	before := told(p)
	if q, errno := Once(p); errno != api.ErrIR || !reflect.DeepEqual(q, api.Prog{}) {
		t.Errorf("Once: error %d of\n%s\n%s", errno, before, told(q))
	}
	if q, number, errno := Simplify(p); errno != api.ErrIR || number != 0 || !reflect.DeepEqual(q, api.Prog{}) {
		t.Errorf("Simplify: error %d, %d of\n%s\n%s", errno, number, before, told(q))
	}
	if told(p) != before {
		t.Errorf("what was\n%s\nwas changed to\n%s", before, told(p))
	}
}

// P17.2, P17.3: a program that may not be is refused, also where its rules alone would go.
func TestRefused(t *testing.T) {
	refused(t, api.Prog{})
	for _, number := range []int{-1, -2, tried + 1, math.MaxInt, math.MinInt} {
		for _, spoilt := range []func(*api.Prog){
			func(p *api.Prog) { p.Root = number },
			func(p *api.Prog) { p.Forms[n].Resource = number },
			func(p *api.Prog) { p.Forms[tried].Resource = number },
			func(p *api.Prog) { p.Dyns[1].Form = number },
			func(p *api.Prog) { p.Dyns[2].Resource = number },
		} {
			p := around(asking(api.RuAll, y, x))
			spoilt(&p)
			refused(t, p)
		}
		for _, kind := range []api.RuleKind{api.RuAll, api.RuAny, api.RuOne, api.RuNot, api.RuRef, api.RuPrefix, api.RuItems, api.RuNames} {
			refused(t, around(asking(kind, number)))
			refused(t, around(asking(api.RuNot, y), asking(kind, number)))
		}
		refused(t, around(asking(api.RuIf, number, x, x)))
		refused(t, around(asking(api.RuAll, y, n, number)))
		if number != -1 {
			refused(t, around(asking(api.RuIf, y, x, number)))
			refused(t, around(asking(api.RuIf, y, number, -1)))
		}
	}
	for _, r := range []api.Rule{
		{},
		{Kind: 36},
		{Kind: -1},
		{Kind: math.MaxInt},
		{Kind: api.RuType},
		typed("null boolean number string array object any"),
		{Kind: api.RuConst},
		{Kind: api.RuEnum, Vals: []api.Value{{Kind: 7}}},
		{Kind: api.RuEnum, Vals: []api.Value{{Kind: api.Object, Keys: []string{"a"}}}},
		{Kind: api.RuShortest, N: -1},
		{Kind: api.RuShortest, M: 1},
		{Kind: api.RuRequired, Names: []string{"\xff"}},
		{Kind: api.RuDepends},
		{Kind: api.RuPattern, Pats: []string{"("}},
		{Kind: api.RuMultiple},
		{Kind: api.RuAll, Names: []string{"a"}},
		{Kind: api.RuAny, N: 1},
		asking(api.RuNot),
		asking(api.RuNot, y, y),
		asking(api.RuRef),
		asking(api.RuIf),
		asking(api.RuIf, y),
		asking(api.RuIf, n, y),
		asking(api.RuIf, y, y, y, y),
		asking(api.RuWhen, y),
		asking(api.RuDynamic, y),
		{Kind: api.RuWhen, Names: []string{"a"}},
		{Kind: api.RuProps, Names: []string{"a"}},
	} {
		refused(t, around(r))
		refused(t, around(asking(api.RuNot, y), r))
		refused(t, around(r, asking(api.RuRef, n)))
	}
	loop := api.Value{Kind: api.Array, List: make([]api.Value, 1)}
	loop.List[0] = loop
	p := around(api.Rule{Kind: api.RuEnum, Vals: []api.Value{loop}})
	if q, errno := Once(p); errno != api.ErrIR || !reflect.DeepEqual(q, api.Prog{}) || Rules(p) != 4 {
		t.Error(errno, Rules(q))
	}
}

// P17.2: a Never form with Rules, and a Dyn that is there twice, may not be.
func TestRefusedForms(t *testing.T) {
	p := around(asking(api.RuAll))
	p.Forms[tried].Never = true
	refused(t, p)
	if Yes(p.Forms[tried]) || Rules(p) != 4 {
		t.Error(told(p))
	}
	p = around(asking(api.RuAll))
	p.Dyns = append(p.Dyns, api.Dyn{Name: "d", Resource: y, Form: x})
	refused(t, p)
	p = around(asking(api.RuAll))
	p.Dyns[0].Name = "\x80"
	refused(t, p)
}

// R1: values that are as deep as they may be.
func TestDeepValues(t *testing.T) {
	v := api.Value{}
	for range api.MaxDepth {
		v = api.Value{Kind: api.Array, List: []api.Value{v}}
	}
	p := around(api.Rule{Kind: api.RuEnum, Vals: []api.Value{v}})
	for name, call := range calls() {
		q := call(p)
		if len(q.Forms) != len(p.Forms) || q.Forms[tried].Rules[0].Kind != api.RuConst {
			t.Fatal(name)
		}
		inner, levels := q.Forms[tried].Rules[0].Vals[0], 0
		for len(inner.List) == 1 {
			inner = inner.List[0]
			levels++
		}
		if levels != api.MaxDepth || inner.Kind != api.Null {
			t.Error(name, levels)
		}
	}
}
