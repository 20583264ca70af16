package plain

import (
	"slices"
	"strings"
	"testing"

	"caliper/api"
)

// once asks for what Once makes of a program.
func once(t *testing.T, p api.Prog, want api.Prog) {
	t.Helper()
	before := told(p)
	got, errno := Once(p)
	if errno != api.OK || told(got) != told(want) {
		t.Errorf("error %d, of\n%s\ncame\n%s\nnot\n%s", errno, before, told(got), told(want))
	}
	if told(p) != before {
		t.Errorf("what was\n%s\nwas changed to\n%s", before, told(p))
	}
}

// neighbours are rules that no call changes.
func neighbours() []api.Rule {
	return []api.Rule{{Kind: api.RuPattern, Pats: []string{"^a"}}, {Kind: api.RuRequired, Names: []string{"b", "a"}}, asking(api.RuNot, z)}
}

// beside puts a rule's outcome in each place among its neighbours.
func beside(visit func(put func(rules ...api.Rule) []api.Rule)) {
	for at := range len(neighbours()) + 1 {
		visit(func(rules ...api.Rule) []api.Rule { return slices.Insert(neighbours(), at, rules...) })
	}
	visit(func(rules ...api.Rule) []api.Rule { return rules })
}

// turned asks for a rule that becomes another one, alone and among others.
func turned(t *testing.T, r api.Rule, want api.Rule) {
	t.Helper()
	beside(func(put func(...api.Rule) []api.Rule) { once(t, around(put(r)...), around(put(want)...)) })
}

// stayed asks for rules that are simple already.
func stayed(t *testing.T, rules ...api.Rule) {
	t.Helper()
	for _, r := range rules {
		turned(t, r, r)
	}
}

// gone asks for rules that go.
func gone(t *testing.T, rules ...api.Rule) {
	t.Helper()
	for _, r := range rules {
		beside(func(put func(...api.Rule) []api.Rule) { once(t, around(put(r)...), around(put()...)) })
	}
}

// failed asks for rules that make their form Never.
func failed(t *testing.T, rules ...api.Rule) {
	t.Helper()
	want := around()
	want.Forms[tried].Never = true
	for _, r := range rules {
		beside(func(put func(...api.Rule) []api.Rule) { once(t, around(put(r)...), want) })
	}
}

// typed is a rule of some types.
func typed(names string) api.Rule {
	return api.Rule{Kind: api.RuType, Names: strings.Fields(names)}
}

// orders hands on a row in all orders.
func orders(row []string, from int, visit func([]string)) {
	if from == len(row) {
		visit(row)
	}
	for i := from; i < len(row); i++ {
		row[from], row[i] = row[i], row[from]
		orders(row, from+1, visit)
		row[from], row[i] = row[i], row[from]
	}
}

// P17.2: RuType with all six names goes, in any order, with integer or a name twice beside them; without one of them it stays.
func TestOnceTypes(t *testing.T) {
	const six = "null boolean number string array object"
	orders(strings.Fields(six), 0, func(row []string) {
		gone(t, api.Rule{Kind: api.RuType, Names: slices.Clone(row)})
	})
	for at := range 7 {
		gone(t, api.Rule{Kind: api.RuType, Names: slices.Insert(strings.Fields(six), at, "integer")})
		gone(t, api.Rule{Kind: api.RuType, Names: slices.Insert(strings.Fields(six), at, "null", "object", "integer")})
	}
	for at := range 6 {
		five := slices.Delete(strings.Fields(six), at, at+1)
		stayed(t, api.Rule{Kind: api.RuType, Names: five})
		for in := range 6 {
			stayed(t, api.Rule{Kind: api.RuType, Names: slices.Insert(slices.Clone(five), in, "integer")})
			stayed(t, api.Rule{Kind: api.RuType, Names: slices.Insert(slices.Clone(five), in, five[2])})
		}
	}
	stayed(t, typed("null"), typed("integer"), typed("number integer"), typed("null null null null null null"), typed("object array string number boolean"))
}

// P17.2: RuEnum by how many Vals it has, whether they are equal or not.
func TestOnceEnums(t *testing.T) {
	enum := func(s string) api.Rule { return api.Rule{Kind: api.RuEnum, Vals: parsed(s).List} }
	failed(t, enum(`[]`), api.Rule{Kind: api.RuEnum, Vals: []api.Value{}})
	for _, s := range []string{`[null]`, `[false]`, `[1.5e3]`, `["a"]`, `[[]]`, `[[1,[2,{}]]]`, `[{"b":[1],"a":{"c":null}}]`} {
		turned(t, enum(s), api.Rule{Kind: api.RuConst, Vals: parsed(s).List})
		stayed(t, api.Rule{Kind: api.RuConst, Vals: parsed(s).List})
	}
	stayed(t, enum(`[1,2]`), enum(`[1,1]`), enum(`[null,[null],{"a":1}]`))
}

// P17.2: least counts of 0 go, others stay; so do most counts of 0.
func TestOnceCounts(t *testing.T) {
	for _, kind := range []api.RuleKind{api.RuShortest, api.RuLeastItems, api.RuLeastProps} {
		gone(t, api.Rule{Kind: kind})
		stayed(t, api.Rule{Kind: kind, N: 1}, api.Rule{Kind: kind, N: 2}, api.Rule{Kind: kind, N: 1000000000})
	}
	for _, kind := range []api.RuleKind{api.RuLongest, api.RuMostItems, api.RuMostProps} {
		stayed(t, api.Rule{Kind: kind}, api.Rule{Kind: kind, N: 1}, api.Rule{Kind: kind, N: 1000000000})
	}
}

// P17.2: RuRequired without Names and RuDepends with one go.
func TestOnceNames(t *testing.T) {
	required := func(names ...string) api.Rule { return api.Rule{Kind: api.RuRequired, Names: names} }
	depends := func(names ...string) api.Rule { return api.Rule{Kind: api.RuDepends, Names: names} }
	gone(t, required(), required([]string{}...))
	stayed(t, required(""), required("a"), required("b", "a", "b"))
	gone(t, depends("a"), depends(""))
	stayed(t, depends("a", "b"), depends("a", "a"), depends("", ""), depends("c", "b", "a"))
}

// P17.2: RuAll.
func TestOnceAll(t *testing.T) {
	all := func(subs ...int) api.Rule { return asking(api.RuAll, subs...) }
	gone(t, all(), all(y), all(y, y), all(y, y2, y))
	failed(t, all(n), all(n, n2), all(y, n), all(n, y), all(x, n), all(n, x), all(x, y, n2, z), all(y, y, y2, n))
	stayed(t, all(x), all(x, z), all(x, x), all(z, x, z))
	turned(t, all(x, y), all(x))
	turned(t, all(y, x), all(x))
	turned(t, all(y, z, y2, x, y, z), all(z, x, z))
}

// P17.2: RuAny.
func TestOnceAny(t *testing.T) {
	some := func(subs ...int) api.Rule { return asking(api.RuAny, subs...) }
	failed(t, some(), some(n), some(n, n), some(n2, n, n2))
	gone(t, some(y), some(y, y), some(y, y2), some(n, y), some(y, n), some(n, y2, n2, y, n))
	stayed(t, some(x), some(x, z), some(x, x), some(x, y), some(y, x), some(y, y2, z))
	turned(t, some(x, n), some(x))
	turned(t, some(n2, x, n), some(x))
	turned(t, some(n, y, x, n, y2), some(y, x, y2))
	turned(t, some(x, n, z, x), some(x, z, x))
}

// P17.2: RuOne: with one Sub left it is a RuAll of it, also of a yes, and also where it had no other.
func TestOnceOne(t *testing.T) {
	one := func(subs ...int) api.Rule { return asking(api.RuOne, subs...) }
	failed(t, one(), one(n), one(n, n2), one(n, n, n))
	failed(t, one(y, y), one(y, y2), one(y, x, y2), one(x, y, z, y), one(n, y, y2), one(y, n, y), one(y, y, y))
	for _, sub := range []int{x, z, y, y2, tried} {
		turned(t, one(sub), asking(api.RuAll, sub))
		turned(t, one(n, sub), asking(api.RuAll, sub))
		turned(t, one(sub, n2, n), asking(api.RuAll, sub))
		turned(t, one(n, n2, sub, n), asking(api.RuAll, sub))
	}
	stayed(t, one(x, z), one(x, x), one(x, y), one(y, x), one(x, z, y, x))
	turned(t, one(x, n, y), one(x, y))
	turned(t, one(n, x, n2, x, n), one(x, x))
	turned(t, one(z, n, x), one(z, x))
}

// P17.2: RuNot, RuRef, RuWhen, and RuDynamic, which stays.
func TestOnceSingle(t *testing.T) {
	failed(t, asking(api.RuNot, y), asking(api.RuNot, y2))
	gone(t, asking(api.RuNot, n), asking(api.RuNot, n2))
	stayed(t, asking(api.RuNot, x), asking(api.RuNot, z))
	gone(t, asking(api.RuRef, y), asking(api.RuRef, y2))
	failed(t, asking(api.RuRef, n), asking(api.RuRef, n2))
	stayed(t, asking(api.RuRef, x), asking(api.RuRef, z))
	named := func(kind api.RuleKind, name string, sub int) api.Rule {
		return api.Rule{Kind: kind, Names: []string{name}, Subs: []int{sub}}
	}
	gone(t, named(api.RuWhen, "a", y), named(api.RuWhen, "", y2))
	for _, name := range []string{"a", "", "d"} {
		stayed(t, named(api.RuWhen, name, n), named(api.RuWhen, name, n2), named(api.RuWhen, name, x), named(api.RuWhen, name, z))
		for sub := range tried + 1 {
			stayed(t, named(api.RuDynamic, name, sub))
		}
	}
}

// P17.2: RuIf, by its first Sub; what is asked then stands in a RuAll, whatever it is.
func TestOnceIf(t *testing.T) {
	when := func(subs ...int) api.Rule { return asking(api.RuIf, subs...) }
	others := []int{-1, y, n, x, z, y2, n2, tried}
	for _, sub := range others {
		for _, other := range others {
			first, second := turned, turned
			if sub == -1 {
				first = func(t *testing.T, r api.Rule, _ api.Rule) { t.Helper(); gone(t, r) }
			}
			if other == -1 {
				second = func(t *testing.T, r api.Rule, _ api.Rule) { t.Helper(); gone(t, r) }
			}
			for _, yes := range []int{y, y2} {
				first(t, when(yes, sub, other), asking(api.RuAll, sub))
			}
			for _, no := range []int{n, n2} {
				second(t, when(no, sub, other), asking(api.RuAll, other))
			}
			stayed(t, when(x, sub, other), when(z, sub, other), when(tried, sub, other))
		}
	}
}

// P17.2: all other kinds stay, whatever their Subs.
func TestOnceOthers(t *testing.T) {
	stayed(t, api.Rule{Kind: api.RuMultiple, Num: api.Dec{Digits: "1"}}, api.Rule{Kind: api.RuUnique}, api.Rule{Kind: api.RuPattern, Pats: []string{""}}, api.Rule{Kind: api.RuConst, Vals: make([]api.Value, 1)})
	for _, kind := range []api.RuleKind{api.RuMax, api.RuMaxOut, api.RuMin, api.RuMinOut} {
		stayed(t, api.Rule{Kind: kind}, api.Rule{Kind: kind, Num: api.Dec{Neg: true, Digits: "25", Exp: -1}})
	}
	stayed(t, api.Rule{Kind: api.RuPrefix}, api.Rule{Kind: api.RuProps}, api.Rule{Kind: api.RuMatching})
	for _, sub := range []int{y, n, x, y2, n2, tried} {
		one := []int{sub}
		for _, kind := range []api.RuleKind{api.RuPrefix, api.RuItems, api.RuContains, api.RuRest, api.RuNames, api.RuLeftItems, api.RuLeftProps} {
			stayed(t, api.Rule{Kind: kind, Subs: one})
		}
		stayed(t, api.Rule{Kind: api.RuPrefix, Subs: []int{sub, y, n, sub}})
		stayed(t, api.Rule{Kind: api.RuItems, N: 1, Subs: one})
		stayed(t, api.Rule{Kind: api.RuContains, N: 1, M: -1, Subs: one}, api.Rule{Kind: api.RuContains, M: -1, Subs: one}, api.Rule{Kind: api.RuContains, N: 2, M: 1, Subs: one})
		stayed(t, api.Rule{Kind: api.RuProps, Names: []string{"a"}, Subs: one}, api.Rule{Kind: api.RuProps, Names: []string{"a", "b"}, Subs: []int{sub, y}})
		stayed(t, api.Rule{Kind: api.RuMatching, Pats: []string{"a"}, Subs: one}, api.Rule{Kind: api.RuMatching, Pats: []string{"", "a"}, Subs: []int{n, sub}})
		stayed(t, api.Rule{Kind: api.RuRest, Names: []string{"b", "a"}, Pats: []string{"^"}, Subs: one})
	}
}

// P17.2: a Sub that is the form itself is neither, as long as the form is not Never.
func TestOnceOfItself(t *testing.T) {
	for _, kind := range []api.RuleKind{api.RuAll, api.RuAny, api.RuNot, api.RuRef, api.RuNames} {
		stayed(t, asking(kind, tried))
	}
	stayed(t, asking(api.RuAll, tried, tried), asking(api.RuAny, tried, y), asking(api.RuOne, tried, y), asking(api.RuIf, tried, tried, -1))
	stayed(t, api.Rule{Kind: api.RuWhen, Names: []string{"a"}, Subs: []int{tried}})
	turned(t, asking(api.RuAll, y, tried), asking(api.RuAll, tried))
	turned(t, asking(api.RuAny, tried, n), asking(api.RuAny, tried))
	failed(t, asking(api.RuAll, tried, n), asking(api.RuOne, y, tried, y))
	alone := api.Prog{Forms: []api.Form{{Rules: []api.Rule{asking(api.RuNot, 0)}}}}
	once(t, alone, alone)
}

// P17.2: many rules of a form are made simpler in one call, each once, and stand in their order.
func TestOnceManyRules(t *testing.T) {
	before := []api.Rule{
		{Kind: api.RuEnum, Vals: make([]api.Value, 1)},
		{Kind: api.RuShortest},
		asking(api.RuOne, n, x),
		asking(api.RuIf, y, y, -1),
		typed("null"),
		asking(api.RuAny, y),
		asking(api.RuAll, y, x, y),
		asking(api.RuIf, n, x, n2),
		asking(api.RuOne, y),
		asking(api.RuNot, n),
	}
	after := []api.Rule{
		{Kind: api.RuConst, Vals: make([]api.Value, 1)},
		asking(api.RuAll, x),
		asking(api.RuAll, y),
		typed("null"),
		asking(api.RuAll, x),
		asking(api.RuAll, n2),
		asking(api.RuAll, y),
	}
	once(t, around(before...), around(after...))
	never := around()
	never.Forms[tried].Never = true
	once(t, around(append(before, asking(api.RuNot, y))...), never)
	once(t, around(append([]api.Rule{asking(api.RuRef, n)}, before...)...), never)
	once(t, around(slices.Insert(before, 5, asking(api.RuAny))...), never)
	once(t, around(asking(api.RuNot, n), asking(api.RuRef, y), asking(api.RuAll), typed("null boolean number string array object integer")), around())
	once(t, around(asking(api.RuAny), asking(api.RuAny), asking(api.RuNot, y)), never)
	once(t, around(asking(api.RuRef, y), asking(api.RuRef, n), asking(api.RuRef, y)), never)
}

// P17.2: what forms become by this call counts only in the next, whichever stand first.
func TestOnceAsksTheOldForms(t *testing.T) {
	asks := func(sub int) []api.Rule {
		return []api.Rule{asking(api.RuRef, sub), asking(api.RuAll, sub, sub), asking(api.RuAny, sub, 3), asking(api.RuIf, sub, -1, -1), asking(api.RuOne, 3, sub, sub), asking(api.RuNot, sub), {Kind: api.RuWhen, Names: []string{"a"}, Subs: []int{sub}}}
	}
	other := api.Form{Rules: []api.Rule{{Kind: api.RuUnique}}}
	for _, becomes := range []struct {
		rule  api.Rule
		never bool
	}{{api.Rule{Kind: api.RuShortest}, false}, {api.Rule{Kind: api.RuAny}, true}} {
		before, after := api.Form{Rules: []api.Rule{becomes.rule}}, api.Form{Never: becomes.never}
		once(t,
			api.Prog{Forms: []api.Form{{Rules: asks(1)}, before, {Rules: asks(1)}, other}},
			api.Prog{Forms: []api.Form{{Rules: asks(1)}, after, {Rules: asks(1)}, other}})
		for _, r := range asks(1) {
			p := api.Prog{Forms: []api.Form{{Rules: []api.Rule{r}}, before, {Rules: []api.Rule{r}}, other}}
			want := p
			want.Forms = slices.Clone(p.Forms)
			want.Forms[1] = after
			once(t, p, want)
		}
	}
}

// P17.2: what is no yes and no no in p changes nothing, and nothing but rules and Never changes: Resources, Dyns and Root stay.
func TestOnceKeeps(t *testing.T) {
	p := around(asking(api.RuRef, n))
	p.Root = tried
	for i := range p.Forms {
		p.Forms[i].Resource = len(p.Forms) - 1 - i
	}
	p.Dyns = []api.Dyn{{Name: "é", Resource: tried, Form: tried}, {Name: "é", Resource: n, Form: tried}, {Name: "a", Resource: tried, Form: y}}
	want := p
	want.Forms = slices.Clone(p.Forms)
	want.Forms[tried] = api.Form{Never: true}
	once(t, p, want)
	once(t, want, want)
	once(t, around(), around())
	once(t, api.Prog{Forms: make([]api.Form, 1)}, api.Prog{Forms: make([]api.Form, 1)})
	once(t, api.Prog{Forms: []api.Form{{Never: true}}}, api.Prog{Forms: []api.Form{{Never: true}}})
}
