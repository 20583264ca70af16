package ir

import (
	"math"
	"reflect"
	"slices"
	"strings"
	"testing"

	"caliper/api"
)

// within is a program of three forms, the second of which has these rules.
func within(rules ...api.Rule) api.Prog {
	return api.Prog{Forms: []api.Form{{}, {Resource: 2, Rules: rules}, {Never: true, Resource: 1}}, Root: 1}
}

// checked asks for what Check answers of a program.
func checked(t *testing.T, p api.Prog, want api.Errno) {
	t.Helper()
	if got := Check(p); got != want {
		t.Errorf("Check: %d, not %d:\n%s", got, want, told(p))
	}
}

// kind is a kind of rule, with rules that may be.
type kind struct {
	kind api.RuleKind
	may  []api.Rule
}

// kinds are all kinds of rules, in the order of their numbers.
func kinds() []kind {
	one, null := []int{2}, []api.Value{{}}
	numbers := []api.Rule{{Num: whole("1")}, {Num: api.Dec{Digits: "25", Exp: -2}}, {Num: api.Dec{Digits: "1", Exp: 1000000}}, {Num: api.Dec{Digits: "1", Exp: -1000000}}, {Num: whole(strings.Repeat("1", 65536))}}
	signed := append(slices.Clone(numbers), api.Rule{}, api.Rule{Num: api.Dec{Neg: true, Digits: "5"}})
	counts := []api.Rule{{}, {N: 1}, {N: 999999999}, {N: 1000000000}}
	subs := []api.Rule{{}, {Subs: []int{0}}, {Subs: []int{2, 1, 0, 0, 1, 2}}}
	sub := []api.Rule{{Subs: []int{0}}, {Subs: []int{1}}, {Subs: []int{2}}}
	return []kind{
		{api.RuType, []api.Rule{{Names: []string{"null"}}, {Names: []string{"array", "boolean", "integer", "null", "number", "object", "string"}}, {Names: []string{"null", "null"}}}},
		{api.RuConst, []api.Rule{{Vals: null}, {Vals: []api.Value{parsed(`{"b":[1,"x"],"a":{}}`)}}, {Vals: []api.Value{deepest(10000)}}}},
		{api.RuEnum, []api.Rule{{}, {Vals: null}, {Vals: parsed(`[1,1,"a",[{}]]`).List}}},
		{api.RuMultiple, numbers},
		{api.RuMax, signed},
		{api.RuMaxOut, signed},
		{api.RuMin, signed},
		{api.RuMinOut, signed},
		{api.RuLongest, counts},
		{api.RuShortest, counts},
		{api.RuPattern, []api.Rule{{Pats: []string{""}}, {Pats: []string{"^é|[a-z]{3}$"}}, {Pats: []string{strings.Repeat("a", 4096)}}}},
		{api.RuMostItems, counts},
		{api.RuLeastItems, counts},
		{api.RuUnique, []api.Rule{{}}},
		{api.RuMostProps, counts},
		{api.RuLeastProps, counts},
		{api.RuRequired, []api.Rule{{}, {Names: []string{""}}, {Names: []string{"b", "a", "b", "é"}}}},
		{api.RuDepends, []api.Rule{{Names: []string{""}}, {Names: []string{"b", "a", "b"}}}},
		{api.RuAll, subs},
		{api.RuAny, subs},
		{api.RuOne, subs},
		{api.RuNot, sub},
		{api.RuIf, []api.Rule{{Subs: []int{0, 1, 2}}, {Subs: []int{0, -1, 2}}, {Subs: []int{0, 1, -1}}, {Subs: []int{2, -1, -1}}}},
		{api.RuWhen, []api.Rule{{Names: []string{"a"}, Subs: one}, {Names: []string{""}, Subs: one}}},
		{api.RuRef, sub},
		{api.RuDynamic, []api.Rule{{Names: []string{"a"}, Subs: one}, {Names: []string{"no name, but a text"}, Subs: one}}},
		{api.RuPrefix, subs},
		{api.RuItems, []api.Rule{{Subs: one}, {N: 1, Subs: one}, {N: 1000000000, Subs: one}}},
		{api.RuContains, []api.Rule{{Subs: one}, {N: 1, M: -1, Subs: one}, {N: 1000000000, M: 1000000000, Subs: one}, {N: 5, M: 2, Subs: one}}},
		{api.RuProps, []api.Rule{{}, {Names: []string{"b", "", "b"}, Subs: []int{2, 0, 2}}}},
		{api.RuMatching, []api.Rule{{}, {Pats: []string{"b", "", "b"}, Subs: []int{2, 0, 2}}}},
		{api.RuRest, []api.Rule{{Subs: one}, {Names: []string{"a", "a"}, Subs: one}, {Pats: []string{"a", ""}, Subs: one}, {Names: []string{""}, Pats: []string{"^", "$", "."}, Subs: one}}},
		{api.RuNames, sub},
		{api.RuLeftItems, sub},
		{api.RuLeftProps, sub},
	}
}

// deepest is a value of so many levels.
func deepest(levels int) api.Value {
	v := api.Value{}
	for range levels {
		v = api.Value{Kind: api.Array, List: []api.Value{v}}
	}
	return v
}

// eachGood hands on all rules that may be.
func eachGood(visit func(api.Rule)) {
	for _, k := range kinds() {
		for _, r := range k.may {
			r.Kind = k.kind
			visit(r)
		}
	}
}

// P16.3: rules that may be, one by one and all together; each kind comes up.
func TestGoodRules(t *testing.T) {
	var all []api.Rule
	eachGood(func(r api.Rule) {
		checked(t, within(r), api.OK)
		all = append(all, r)
	})
	checked(t, within(all...), api.OK)
	slices.Reverse(all)
	checked(t, within(all...), api.OK)
	for i, k := range kinds() {
		if int(k.kind) != i+1 {
			t.Error(i, k.kind)
		}
	}
	if len(kinds()) != int(api.RuLeftProps) {
		t.Error(len(kinds()))
	}
}

// P16.3: kinds that are none.
func TestNoKinds(t *testing.T) {
	for _, k := range []api.RuleKind{0, -1, 36, 37, math.MaxInt, math.MinInt} {
		eachGood(func(r api.Rule) {
			r.Kind = k
			checked(t, within(r), api.ErrIR)
		})
	}
	checked(t, within(api.Rule{}), api.ErrIR)
}

// P16.3: fields that are missing.
func TestMissingFields(t *testing.T) {
	refuse := func(needing string, without func(*api.Rule)) {
		eachGood(func(r api.Rule) {
			want := api.OK
			if slices.Contains(strings.Fields(needing), names()[r.Kind]) {
				want = api.ErrIR
			}
			before := r
			without(&r)
			if !reflect.DeepEqual(r, before) {
				checked(t, within(r), want)
			}
		})
	}
	refuse("Type Depends When Dynamic Props", func(r *api.Rule) { r.Names = nil })
	refuse("Const", func(r *api.Rule) { r.Vals = []api.Value{} })
	refuse("Multiple", func(r *api.Rule) { r.Num = api.Dec{} })
	refuse("Pattern Matching", func(r *api.Rule) { r.Pats = nil })
	refuse("", func(r *api.Rule) { r.N = 0 })
	refuse("", func(r *api.Rule) { r.M = 0 })
	refuse("Not If When Ref Dynamic Items Contains Props Matching Rest Names LeftItems LeftProps", func(r *api.Rule) { r.Subs = nil })
}

// names are the kinds' names, as the tests tell them.
func names() []string {
	return append([]string{"?"}, strings.Fields("Type Const Enum Multiple Max MaxOut Min MinOut Longest Shortest Pattern MostItems LeastItems Unique MostProps LeastProps Required Depends All Any One Not If When Ref Dynamic Prefix Items Contains Props Matching Rest Names LeftItems LeftProps")...)
}

// P16.3: one more of each field: where the kind has none, or just so many, it is refused.
func TestMoreFields(t *testing.T) {
	refuse := func(takers string, with func(*api.Rule)) {
		fields := strings.Fields(takers)
		eachGood(func(r api.Rule) {
			want := api.ErrIR
			if slices.Contains(fields, names()[r.Kind]) {
				want = api.OK
			}
			with(&r)
			checked(t, within(r), want)
		})
	}
	refuse("Type Required Depends Rest", func(r *api.Rule) { r.Names = append(slices.Clone(r.Names), "null") })
	refuse("Enum", func(r *api.Rule) { r.Vals = append(slices.Clone(r.Vals), api.Value{}) })
	refuse("Rest", func(r *api.Rule) { r.Pats = append(slices.Clone(r.Pats), "") })
	refuse("All Any One Prefix", func(r *api.Rule) { r.Subs = append(slices.Clone(r.Subs), 0) })
	refuse("Multiple Max MaxOut Min MinOut", func(r *api.Rule) { r.Num = whole("3") })
	refuse("Longest Shortest MostItems LeastItems MostProps LeastProps Items Contains", func(r *api.Rule) { r.N = 3 })
	refuse("Contains", func(r *api.Rule) { r.M = 3 })
	refuse("Contains", func(r *api.Rule) { r.M = -1 })
	refuse("Props", func(r *api.Rule) {
		r.Names, r.Subs = append(slices.Clone(r.Names), "null"), append(slices.Clone(r.Subs), 0)
	})
	refuse("Matching", func(r *api.Rule) { r.Pats, r.Subs = append(slices.Clone(r.Pats), "a"), append(slices.Clone(r.Subs), 0) })
}

// P16.3: two of what is one, two or four of what are three, and lists that are of unlike lengths.
func TestWrongLengths(t *testing.T) {
	for _, r := range []api.Rule{
		{Kind: api.RuConst, Vals: make([]api.Value, 2)},
		{Kind: api.RuPattern, Pats: []string{"a", "a"}},
		{Kind: api.RuIf, Subs: []int{0, 1}},
		{Kind: api.RuIf, Subs: []int{0}},
		{Kind: api.RuIf, Subs: []int{0, -1, -1, -1}},
		{Kind: api.RuIf, Subs: []int{0, 1, 2, 0}},
		{Kind: api.RuWhen, Names: []string{"a", "b"}, Subs: []int{0}},
		{Kind: api.RuWhen, Names: []string{"a", "b"}, Subs: []int{0, 1}},
		{Kind: api.RuDynamic, Names: []string{"a", "b"}, Subs: []int{0}},
		{Kind: api.RuProps, Names: []string{"a"}},
		{Kind: api.RuProps, Names: []string{"a", "b"}, Subs: []int{0}},
		{Kind: api.RuProps, Names: []string{"a"}, Subs: []int{0, 1}},
		{Kind: api.RuProps, Pats: []string{"a"}, Subs: []int{0}},
		{Kind: api.RuMatching, Pats: []string{"a"}},
		{Kind: api.RuMatching, Pats: []string{"a", "b"}, Subs: []int{0}},
		{Kind: api.RuMatching, Pats: []string{"a"}, Subs: []int{0, 1}},
		{Kind: api.RuMatching, Names: []string{"a"}, Subs: []int{0}},
		{Kind: api.RuRest, Names: []string{"a", "b"}, Subs: []int{0, 1}},
	} {
		checked(t, within(r), api.ErrIR)
	}
}

// P16.3: numbers just beyond their bounds.
func TestBeyondBounds(t *testing.T) {
	eachGood(func(r api.Rule) {
		for _, n := range []int{-1, 1000000001, math.MaxInt, math.MinInt} {
			wrong := r
			wrong.N = n
			checked(t, within(wrong), api.ErrIR)
		}
		for _, m := range []int{-2, 1000000001, math.MaxInt, math.MinInt} {
			wrong := r
			wrong.M = m
			checked(t, within(wrong), api.ErrIR)
		}
		for _, d := range []api.Dec{
			{Digits: "10"}, {Digits: "01"}, {Digits: "a"}, {Digits: "1", Exp: 1000001}, {Digits: "1", Exp: -1000001}, {Neg: true}, {Exp: 1}, {Digits: "1.5"}, {Digits: "-1"}, whole(strings.Repeat("1", 65537)),
		} {
			wrong := r
			wrong.Num = d
			checked(t, within(wrong), api.ErrIR)
		}
	})
	checked(t, within(api.Rule{Kind: api.RuMultiple, Num: api.Dec{Neg: true, Digits: "1"}}), api.ErrIR)
	checked(t, within(api.Rule{Kind: api.RuMultiple, Num: api.Dec{}}), api.ErrIR)
}

// P16.3: Subs that are no forms' numbers, in each place; -1 only where a branch may be missing.
func TestWrongSubs(t *testing.T) {
	eachGood(func(r api.Rule) {
		for i := range r.Subs {
			for _, to := range []int{-1, -2, 3, 4, math.MaxInt, math.MinInt} {
				wrong := r
				wrong.Subs = slices.Clone(r.Subs)
				wrong.Subs[i] = to
				want := api.ErrIR
				if r.Kind == api.RuIf && i > 0 && to == -1 {
					want = api.OK
				}
				checked(t, within(wrong), want)
			}
		}
	})
}

// P16.3: elements of lists that may not be, in each place.
func TestWrongElements(t *testing.T) {
	loop := api.Value{Kind: api.Array, List: make([]api.Value, 1)}
	loop.List[0] = loop
	wrongValues := []api.Value{{Kind: 7}, {Kind: -1}, {Kind: api.Null, Text: "a"}, {Kind: api.String, Text: "\xff"}, {Kind: api.Number, Num: api.Dec{Digits: "0"}}, {Kind: api.Object, Keys: []string{"a", "a"}, List: make([]api.Value, 2)}, {Kind: api.Array, List: []api.Value{{Kind: 8}}}, deepest(10001), loop}
	wrongPatterns := []string{"(", "a**", "\xff", "[", `\1`, "(?=a)", strings.Repeat("a", 4097)}
	wrongTypes := []string{"", "Null", "nulls", "any", "true", "float", " null", "null\x00", "\xff"}
	wrongNames := []string{"\xff", "a\x80", "\xc0\x80", "\xed\xa0\x80", "é\xc3", "\xf5\x80\x80\x80"}
	eachGood(func(r api.Rule) {
		for i := range r.Vals {
			for _, v := range wrongValues {
				wrong := r
				wrong.Vals = slices.Clone(r.Vals)
				wrong.Vals[i] = v
				checked(t, within(wrong), api.ErrIR)
			}
		}
		replaced := func(l []string, with []string, set func(*api.Rule, []string)) {
			for i := range l {
				for _, s := range with {
					wrong := r
					changed := slices.Clone(l)
					changed[i] = s
					set(&wrong, changed)
					checked(t, within(wrong), api.ErrIR)
				}
			}
		}
		setNames := func(r *api.Rule, l []string) { r.Names = l }
		replaced(r.Pats, wrongPatterns, func(r *api.Rule, l []string) { r.Pats = l })
		replaced(r.Names, wrongNames, setNames)
		if r.Kind == api.RuType {
			replaced(r.Names, wrongTypes, setNames)
		}
	})
}

// P16.3: a rule that may not be is found in whichever form and place it stands.
func TestWrongPlaces(t *testing.T) {
	wrong := api.Rule{Kind: api.RuNot}
	for n := range 3 {
		for i := range 3 {
			p := api.Prog{Forms: make([]api.Form, 3)}
			for m := range p.Forms {
				p.Forms[m].Rules = slices.Repeat([]api.Rule{{Kind: api.RuUnique}}, 3)
			}
			checked(t, p, api.OK)
			p.Forms[n].Rules[i] = wrong
			checked(t, p, api.ErrIR)
		}
	}
}

// P16.3: a Never form has no Rules.
func TestNever(t *testing.T) {
	checked(t, api.Prog{Forms: []api.Form{{Never: true}}}, api.OK)
	checked(t, api.Prog{Forms: []api.Form{{Never: true, Rules: []api.Rule{}}}}, api.OK)
	eachGood(func(r api.Rule) {
		p := within(r)
		p.Forms[1].Never = true
		checked(t, p, api.ErrIR)
	})
}

// P16.3: Root, Resources, and Dyns' numbers.
func TestWrongNumbers(t *testing.T) {
	checked(t, api.Prog{}, api.ErrIR)
	checked(t, api.Prog{Root: -1}, api.ErrIR)
	for n := range 3 {
		p := within()
		p.Root, p.Forms[0].Resource, p.Dyns = n, n, []api.Dyn{{Resource: n, Form: 2 - n}}
		checked(t, p, api.OK)
	}
	for _, n := range []int{-1, -2, 3, 4, math.MaxInt, math.MinInt} {
		p := within()
		p.Root = n
		checked(t, p, api.ErrIR)
		for i := range 3 {
			p = within()
			p.Forms[i].Resource = n
			checked(t, p, api.ErrIR)
			p = within()
			p.Dyns = []api.Dyn{{Name: "a"}, {Name: "b"}, {Name: "c"}}
			checked(t, p, api.OK)
			p.Dyns[i].Resource = n
			checked(t, p, api.ErrIR)
			p.Dyns[i] = api.Dyn{Name: "a", Resource: 1, Form: n}
			checked(t, p, api.ErrIR)
		}
	}
}

// P16.3: no two Dyns of one Resource have one Name, whichever their Forms; names are texts.
func TestDynsTwice(t *testing.T) {
	p := within()
	p.Dyns = []api.Dyn{dyn("a", 0, 1), dyn("b", 0, 1), dyn("a", 1, 1), dyn("", 0, 0), dyn("a", 2, 1), dyn("A", 0, 1)}
	checked(t, p, api.OK)
	for i, d := range p.Dyns {
		for _, form := range []int{0, 1, 2} {
			for at := range len(p.Dyns) + 1 {
				twice := p
				twice.Dyns = slices.Insert(slices.Clone(p.Dyns), at, api.Dyn{Name: d.Name, Resource: d.Resource, Form: form})
				checked(t, twice, api.ErrIR)
			}
		}
		bad := p
		bad.Dyns = slices.Clone(p.Dyns)
		bad.Dyns[i].Name = "\xff"
		checked(t, bad, api.ErrIR)
	}
}

// R3: Check and Same change nothing.
func TestCheckChangesNothing(t *testing.T) {
	eachGood(func(r api.Rule) {
		p := within(r)
		p.Dyns = []api.Dyn{{Name: "a"}}
		before := told(p)
		Check(p)
		spoilEdges(Same(p))
		if told(p) != before {
			t.Errorf("%s\nthen\n%s", before, told(p))
		}
	})
}

func spoilEdges(edges []api.Edge) {
	for i := range edges {
		edges[i] = api.Edge{From: -9, To: -9}
	}
}
