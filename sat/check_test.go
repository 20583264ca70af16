package sat

import (
	"fmt"
	"math"
	"testing"

	"caliper/api"
	"caliper/ir"
	"caliper/loops"
)

// refused asks that a program is refused, by Sat whatever the value, and that it is not changed.
func refused(t *testing.T, p api.Prog, want api.Errno) {
	t.Helper()
	before := told(p)
	if errno := Check(p); errno != want {
		t.Errorf("Check: %d, not %d, of\n%s", errno, want, cut(before))
	}
	for _, v := range []api.Value{{}, parsed(`{"a":[1,"b"]}`), {Kind: 7}, {Kind: api.Object, Keys: []string{"a"}}} {
		if ok, l, errno := Sat(p, v); ok || len(l) > 0 || errno != want {
			t.Errorf("Sat: %v %v %d, not %d, of\n%s", ok, l, errno, want, cut(before))
		}
	}
	if told(p) != before {
		t.Errorf("what was\n%s\nwas changed to\n%s", cut(before), cut(told(p)))
	}
}

// fine asks that Check has no error.
func fine(t *testing.T, p api.Prog) {
	t.Helper()
	if errno := Check(p); errno != api.OK {
		t.Errorf("Check: %d of\n%s", errno, cut(told(p)))
	}
}

// Patterns with as many states as there may be, and one more.
const (
	most  = "(a{1000}){65}a{535}"
	great = "(a{1000}){65}a{536}"
)

// P19.1: what layer 16's Check refuses.
func TestRefusedIR(t *testing.T) {
	refused(t, api.Prog{}, api.ErrIR)
	for _, n := range []int{-1, -2, failing + 2, math.MaxInt, math.MinInt} {
		for _, spoil := range []func(p *api.Prog){
			func(p *api.Prog) { p.Root = n },
			func(p *api.Prog) { p.Forms[no].Resource = n },
			func(p *api.Prog) { p.Dyns[0].Resource = n },
			func(p *api.Prog) { p.Dyns[0].Form = n },
			func(p *api.Prog) { p.Forms[tried].Rules[0].Subs[0] = n },
		} {
			p := around(asks(api.RuRef, yes))
			p.Dyns = []api.Dyn{dyn("d", 1, 1)}
			fine(t, p)
			spoil(&p)
			refused(t, p, api.ErrIR)
		}
		refused(t, around(asks(api.RuIf, n, yes, yes)), api.ErrIR)
		refused(t, around(asks(api.RuPrefix, yes, n)), api.ErrIR)
		if n != -1 {
			refused(t, around(asks(api.RuIf, yes, n, -1)), api.ErrIR)
			refused(t, around(asks(api.RuIf, yes, -1, n)), api.ErrIR)
		}
	}
	for _, r := range []api.Rule{
		{}, {Kind: -1}, {Kind: 36}, {Kind: math.MaxInt}, {Kind: api.RuType}, typed("any"), typed("string Null"),
		{Kind: api.RuConst}, vals(api.RuConst, "[1,2]"), {Kind: api.RuEnum, Vals: []api.Value{{Kind: 7}}}, {Kind: api.RuMultiple}, {Kind: api.RuMultiple, Num: api.Dec{Neg: true, Digits: "1"}},
		{Kind: api.RuMax, Num: api.Dec{Digits: "10"}}, {Kind: api.RuLongest, N: -1}, {Kind: api.RuLongest, N: 1000000001}, {Kind: api.RuContains, M: -2, Subs: []int{yes}},
		{Kind: api.RuPattern}, {Kind: api.RuPattern, Pats: []string{"("}}, {Kind: api.RuPattern, Pats: []string{"a", "b"}}, {Kind: api.RuDepends}, {Kind: api.RuUnique, N: 1},
		{Kind: api.RuRequired, Names: []string{"\xff"}}, {Kind: api.RuWhen, Subs: []int{yes}}, {Kind: api.RuDynamic, Subs: []int{yes}},
		asks(api.RuNot), asks(api.RuNot, yes, yes), asks(api.RuRef), asks(api.RuIf, yes, yes), asks(api.RuItems), asks(api.RuNames), asks(api.RuLeftItems, yes, no), asks(api.RuLeftProps),
		{Kind: api.RuProps, Names: []string{"a"}}, {Kind: api.RuMatching, Subs: []int{yes}}, {Kind: api.RuRest, Pats: []string{"["}, Subs: []int{yes}},
	} {
		refused(t, around(r), api.ErrIR)
		refused(t, around(typed("null"), r), api.ErrIR)
		p := around()
		p.Forms[number].Rules = append(p.Forms[number].Rules, r)
		refused(t, p, api.ErrIR)
		// Ahead of a cycle and of a pattern that is too great.
		refused(t, around(asks(api.RuRef, tried), api.Rule{Kind: api.RuPattern, Pats: []string{great}}, r), api.ErrIR)
	}
	p := around(typed("null"))
	p.Forms[tried].Never = true
	refused(t, p, api.ErrIR)
	p = around()
	p.Dyns = []api.Dyn{dyn("d", 1, 1), dyn("d", 1, 2)}
	refused(t, p, api.ErrIR)
	p.Dyns[1].Name = "\x80"
	refused(t, p, api.ErrIR)
}

// sameRules are rules of each kind that asks of the same instance, where one of their Subs is a form, and the others take all.
func sameRules(form int) []api.Rule {
	return []api.Rule{
		asks(api.RuAll, form), asks(api.RuAll, yes, form), asks(api.RuAny, yes, form), asks(api.RuOne, form, yes), asks(api.RuNot, form), asks(api.RuRef, form),
		asks(api.RuIf, form, -1, -1), asks(api.RuIf, yes, form, -1), asks(api.RuIf, yes, -1, form), asks(api.RuIf, yes, yes, form),
		{Kind: api.RuWhen, Names: []string{"a"}, Subs: []int{form}}, dynamic("d", form),
	}
}

// partRules are rules of each kind that asks of a value's parts.
func partRules(form int) []api.Rule {
	return []api.Rule{
		asks(api.RuPrefix, yes, form), asks(api.RuItems, form), {Kind: api.RuContains, M: -1, Subs: []int{form}}, asks(api.RuNames, form), asks(api.RuLeftItems, form), asks(api.RuLeftProps, form), asks(api.RuRest, form),
		{Kind: api.RuProps, Names: []string{"a", "b"}, Subs: []int{form, yes}}, {Kind: api.RuMatching, Pats: []string{"a"}, Subs: []int{form}},
	}
}

// P19.1: edges of Same with a cycle, of one form, two and many, also where Root does not lead.
func TestRefusedCycle(t *testing.T) {
	for _, r := range sameRules(tried) {
		refused(t, around(r), api.ErrCycle)
		refused(t, around(typed("null"), r, asks(api.RuPrefix, yes)), api.ErrCycle)
		refused(t, around(r, api.Rule{Kind: api.RuPattern, Pats: []string{great}}), api.ErrCycle)
		p := around(r)
		p.Root = number
		refused(t, p, api.ErrCycle)
		for _, back := range sameRules(tried) {
			for _, out := range sameRules(9) {
				p := around(out)
				p.Forms = append(p.Forms, form(back))
				refused(t, p, api.ErrCycle)
			}
		}
		// One edge of the cycle asks of a part.
		for _, back := range partRules(tried) {
			p := around(sameRules(9)...)
			p.Forms = append(p.Forms, form(back))
			fine(t, p)
		}
	}
	for _, n := range []int{1, 2, 3, 1000, 200000} {
		p := api.Prog{Forms: make([]api.Form, n)}
		for i := range n {
			p.Forms[i].Rules = []api.Rule{asks(api.RuRef, (i+1)%n)}
		}
		if errno := Check(p); errno != api.ErrCycle {
			t.Error(n, errno)
		}
		p.Forms[n/2].Rules[0].Kind = api.RuNames
		fine(t, p)
	}
}

// P19.1: dynamic references may lead to each form that has a dynamic anchor of their name, whatever the scopes that come.
func TestRefusedDynamicCycle(t *testing.T) {
	p := around(dynamic("d", yes), dynamic("e", no))
	p.Dyns = []api.Dyn{dyn("d", number, number), dyn("f", tried, tried), dyn("e", 1, text)}
	fine(t, p)
	for i := range p.Dyns {
		p.Dyns[i].Form = tried
		if i == 1 {
			fine(t, p)
		} else {
			refused(t, p, api.ErrCycle)
		}
		p.Dyns[i].Form = text
	}
	p.Forms[text].Rules = append(p.Forms[text].Rules, asks(api.RuRef, number))
	p.Forms[number].Rules = append(p.Forms[number].Rules, dynamic("g", yes))
	fine(t, p)
	p.Forms[number].Rules = append(p.Forms[number].Rules, dynamic("d", yes))
	refused(t, p, api.ErrCycle)
	p.Forms[number].Rules = []api.Rule{asks(api.RuItems, tried), dynamic("f", yes)}
	p.Dyns[1].Form = number
	refused(t, p, api.ErrCycle)
	p.Dyns[1].Form = no
	fine(t, p)
	// What asks the form of an anchor alone is in no cycle with it.
	p = around(asks(api.RuRef, 9))
	p.Forms = append(p.Forms, form(dynamic("d", yes)))
	p.Dyns = []api.Dyn{dyn("d", 0, first)}
	fine(t, p)
	p.Dyns[0].Form = 9
	refused(t, p, api.ErrCycle)
	p.Dyns[0].Form = tried
	refused(t, p, api.ErrCycle)
}

// P19.1: a program that asks itself of a value's parts alone is fine, and ends.
func TestRecursion(t *testing.T) {
	for _, r := range partRules(tried) {
		p := around(r)
		fine(t, p)
		for _, v := range []string{"1", "[]", "{}", "[[[[]],[]],[]]", `{"a":{"a":{"a":{}}}}`} {
			if ok, _, errno := Sat(p, parsed(v)); !ok || errno != api.OK {
				t.Error(r, v, ok, errno)
			}
		}
	}
	p := around(typed("array"), asks(api.RuItems, tried))
	takes(t, p, "[[],[[],[[]]]]", 0, 1)
	leaves(t, p, "[[],[[],[[1]]]]", "1")
	p = built(t, `{"type":["object","string"],"additionalProperties":{"$ref":"#"},"propertyNames":{"maxLength":2}}`)
	takes(t, p, `{"a":{"b":{"c":"x"}},"d":{}}`, 0, 1)
	leaves(t, p, `{"a":{"b":{"c":1}}}`, `{"a":{"b":{"ccc":"x"}}}`)
}

// P19.1: patterns with more states than there may be, in each kind of rules that has some.
func TestRefusedStates(t *testing.T) {
	rules := func(pattern string) []api.Rule {
		return []api.Rule{
			{Kind: api.RuPattern, Pats: []string{pattern}},
			{Kind: api.RuMatching, Pats: []string{pattern}, Subs: []int{no}}, {Kind: api.RuMatching, Pats: []string{"b", pattern}, Subs: []int{no, no}},
			{Kind: api.RuRest, Pats: []string{pattern}, Subs: []int{yes}}, {Kind: api.RuRest, Pats: []string{"b", "c", pattern}, Subs: []int{yes}},
		}
	}
	for _, r := range rules(most) {
		fine(t, around(r))
		takes(t, around(r), "1")
	}
	for _, pattern := range []string{great, "((((a{1000}){1000}){1000}){1000}){1000}", "(a{1000}){1000}|b"} {
		for _, r := range rules(pattern) {
			refused(t, around(r), api.ErrStates)
			refused(t, around(rules(most)[0], r), api.ErrStates)
			p := around(r)
			p.Root = text
			refused(t, p, api.ErrStates)
		}
	}
}

// P19.1: a value that may not be is refused, but behind what is wrong with the program.
func TestRefusedValue(t *testing.T) {
	for _, v := range []api.Value{
		{Kind: -1}, {Kind: 7}, {Kind: api.Null, Text: "a"}, {Kind: api.True, Num: api.Dec{Digits: "1"}}, {Kind: api.Number, Num: api.Dec{Digits: "10"}}, {Kind: api.Number, Num: api.Dec{Digits: "x"}},
		{Kind: api.Number, Num: api.Dec{Neg: true}}, {Kind: api.String, Text: "\xff"}, {Kind: api.String, Text: "\xed\xa0\x80"}, {Kind: api.String, List: []api.Value{{}}},
		{Kind: api.Array, Keys: []string{"a"}, List: []api.Value{{}}}, {Kind: api.Array, List: []api.Value{{}, {Kind: 9}}}, {Kind: api.Object, Keys: []string{"a"}}, {Kind: api.Object, List: []api.Value{{}}},
		{Kind: api.Object, Keys: []string{"a", "a"}, List: []api.Value{{}, {}}}, {Kind: api.Object, Keys: []string{"\xc3"}, List: []api.Value{{}}}, arrays(api.MaxDepth + 1),
	} {
		for _, p := range []api.Prog{around(), around(typed("null")), around(asks(api.RuRef, no)), built(t, "false"), built(t, "{}")} {
			if ok, l, errno := Sat(p, v); ok || len(l) > 0 || errno != api.ErrValue {
				t.Error(v.Kind, ok, l, errno)
			}
		}
	}
	if ok, l, errno := Sat(around(), arrays(api.MaxDepth)); !ok || len(l) > 0 || errno != api.OK {
		t.Error(ok, l, errno)
	}
	loop := api.Value{Kind: api.Array, List: make([]api.Value, 1)}
	loop.List[0] = loop
	if ok, _, errno := Sat(around(), loop); ok || errno != api.ErrValue {
		t.Error(ok, errno)
	}
}

// P19.1: there is ErrCycle just where the edges of Same, as they stand, have a cycle.
func TestCycleAsEdges(t *testing.T) {
	c := chance(19)
	cycles := 0
	for range 20000 {
		n := 1 + c.below(6)
		p := api.Prog{Forms: make([]api.Form, n), Root: c.below(n)}
		for range c.below(4) {
			name, resource := []string{"d", "e"}[c.below(2)], c.below(n)
			d := dyn(name, resource, c.below(n))
			if ir.Check(api.Prog{Forms: make([]api.Form, n), Dyns: append(p.Dyns[:len(p.Dyns):len(p.Dyns)], d)}) == api.OK {
				p.Dyns = append(p.Dyns, d)
			}
		}
		for range c.below(n + 2) {
			f := &p.Forms[c.below(n)]
			switch c.below(3) {
			case 0:
				f.Rules = append(f.Rules, asks(api.RuItems+api.RuleKind(c.below(2)), c.below(n)))
			case 1:
				f.Rules = append(f.Rules, asks([]api.RuleKind{api.RuAll, api.RuNot, api.RuRef}[c.below(3)], c.below(n)))
			default:
				f.Rules = append(f.Rules, dynamic([]string{"d", "e", "f"}[c.below(3)], c.below(n)))
			}
		}
		want := api.OK
		if _, ok := loops.Cycle(n, ir.Same(p)); ok {
			want = api.ErrCycle
			cycles++
		}
		if errno := Check(p); errno != want {
			t.Fatal(errno, want, fmt.Sprint(ir.Same(p)), told(p))
		}
	}
	if cycles < 4000 || cycles > 16000 {
		t.Error(cycles)
	}
}
