package plain

import (
	"slices"
	"testing"

	"caliper/api"
	"caliper/bundle"
	"caliper/ir"
	"caliper/refs"
)

// chance is a row of numbers that is the same each time.
type chance uint64

func (c *chance) below(n int) int {
	*c = *c*6364136223846793005 + 1442695040888963407
	return int(uint64(*c>>33) % uint64(n))
}

// names are some of a row, in some order, with some of them twice.
func (c *chance) names(row []string, most int) []string {
	var some []string
	for range c.below(most + 1) {
		some = append(some, row[c.below(len(row))])
	}
	return some
}

func (c *chance) subs(forms, least, most int) []int {
	var some []int
	for range least + c.below(most-least+1) {
		some = append(some, c.below(forms))
	}
	return some
}

// branch is a Sub that may be missing.
func (c *chance) branch(forms int) int {
	return c.below(forms+1) - 1
}

// rule is a rule of any kind, mostly of those that ask of the same instance.
func (c *chance) rule(forms int) api.Rule {
	letters := []string{"a", "b", ""}
	r := api.Rule{Kind: api.RuleKind(1 + c.below(int(api.RuLeftProps)))}
	if c.below(3) > 0 {
		r.Kind = api.RuAll + api.RuleKind(c.below(7))
	}
	switch r.Kind {
	case api.RuType:
		types := []string{"null", "boolean", "number", "string", "array", "object", "integer"}
		r.Names = append(c.names(types, 20), "null")
	case api.RuConst:
		r.Vals = []api.Value{parsed(`[1,{"a":[]}]`)}
	case api.RuEnum:
		r.Vals = parsed([]string{`[]`, `[null]`, `[[1]]`, `[1,1]`, `[1,"a",{}]`}[c.below(5)]).List
	case api.RuMultiple, api.RuMax, api.RuMaxOut, api.RuMin, api.RuMinOut:
		r.Num = api.Dec{Digits: "5", Exp: c.below(3)}
	case api.RuLongest, api.RuShortest, api.RuMostItems, api.RuLeastItems, api.RuMostProps, api.RuLeastProps:
		r.N = c.below(2)
	case api.RuPattern:
		r.Pats = []string{"a"}
	case api.RuRequired:
		r.Names = c.names(letters, 2)
	case api.RuDepends:
		r.Names = append(c.names(letters, 1), "b")
	case api.RuAll, api.RuAny, api.RuOne, api.RuPrefix:
		r.Subs = c.subs(forms, 0, 4)
	case api.RuIf:
		r.Subs = []int{c.below(forms), c.branch(forms), c.branch(forms)}
	case api.RuWhen, api.RuDynamic:
		r.Names, r.Subs = []string{"d"}, c.subs(forms, 1, 1)
	case api.RuContains:
		r.N, r.M, r.Subs = c.below(2), c.below(3)-1, c.subs(forms, 1, 1)
	case api.RuProps:
		r.Names, r.Subs = []string{"a", "b"}, c.subs(forms, 2, 2)
	case api.RuMatching:
		r.Pats, r.Subs = []string{"a"}, c.subs(forms, 1, 1)
	case api.RuRest:
		r.Names, r.Pats, r.Subs = c.names(letters, 2), c.names(letters, 2), c.subs(forms, 1, 1)
	case api.RuNot, api.RuRef, api.RuItems, api.RuNames, api.RuLeftItems, api.RuLeftProps:
		r.Subs = c.subs(forms, 1, 1)
	}
	return r
}

// program is one that may be, of a few forms.
func (c *chance) program() api.Prog {
	forms := 1 + c.below(9)
	p := api.Prog{Forms: make([]api.Form, forms), Root: c.below(forms)}
	for i := range p.Forms {
		p.Forms[i].Resource = c.below(forms)
		if c.below(6) == 0 {
			p.Forms[i].Never = true
			continue
		}
		for range c.below(4) {
			p.Forms[i].Rules = append(p.Forms[i].Rules, c.rule(forms))
		}
	}
	for i := range c.below(3) {
		p.Dyns = append(p.Dyns, api.Dyn{Name: "d", Resource: min(i, forms-1), Form: c.below(forms)})
	}
	if len(p.Dyns) > forms {
		p.Dyns = p.Dyns[:forms]
	}
	return p
}

// sorts are how many of some forms are a yes, and a no, and which are neither, which are no no.
type sorts struct {
	yes, no      int
	others, nots []int
}

func sorted(p api.Prog, subs []int) sorts {
	var s sorts
	for _, sub := range subs {
		switch f := p.Forms[sub]; {
		case f.Never:
			s.no++
		case len(f.Rules) == 0:
			s.yes++
			s.nots = append(s.nots, sub)
		default:
			s.others = append(s.others, sub)
			s.nots = append(s.nots, sub)
		}
	}
	return s
}

// What becomes of a rule in the model: what is answered are the rules that stand in its place, and whether the form is Never.
func modelRule(p api.Prog, r api.Rule) (rules []api.Rule, never bool) {
	as := func(kind api.RuleKind, subs []int) ([]api.Rule, bool) {
		return []api.Rule{{Kind: kind, Subs: subs}}, false
	}
	switch r.Kind {
	case api.RuType:
		six := map[string]int{"null": 1, "boolean": 2, "number": 4, "string": 8, "array": 16, "object": 32}
		all := 0
		for _, name := range r.Names {
			all |= six[name]
		}
		if all == 63 {
			return nil, false
		}
	case api.RuEnum:
		if len(r.Vals) == 1 {
			return []api.Rule{{Kind: api.RuConst, Vals: r.Vals}}, false
		}
		if len(r.Vals) == 0 {
			return nil, true
		}
	case api.RuShortest, api.RuLeastItems, api.RuLeastProps:
		if r.N < 1 {
			return nil, false
		}
	case api.RuRequired:
		if len(r.Names) < 1 {
			return nil, false
		}
	case api.RuDepends:
		if len(r.Names) < 2 {
			return nil, false
		}
	case api.RuAll:
		s := sorted(p, r.Subs)
		if s.no > 0 {
			return nil, true
		}
		if len(s.others) == 0 {
			return nil, false
		}
		return as(api.RuAll, s.others)
	case api.RuAny:
		s := sorted(p, r.Subs)
		if s.yes == 0 && len(s.others) == 0 {
			return nil, true
		}
		if len(s.others) == 0 {
			return nil, false
		}
		return as(api.RuAny, s.nots)
	case api.RuOne:
		s := sorted(p, r.Subs)
		if len(s.nots) == 0 || s.yes >= 2 {
			return nil, true
		}
		if len(s.nots) == 1 {
			return as(api.RuAll, s.nots)
		}
		return as(api.RuOne, s.nots)
	case api.RuNot, api.RuRef, api.RuWhen:
		s := sorted(p, r.Subs)
		if s.yes == 1 {
			return nil, r.Kind == api.RuNot
		}
		if s.no == 1 && r.Kind != api.RuWhen {
			return nil, r.Kind == api.RuRef
		}
	case api.RuIf:
		s := sorted(p, r.Subs[:1])
		if len(s.others) == 1 {
			break
		}
		sub := r.Subs[s.yes+2*s.no]
		if sub == -1 {
			return nil, false
		}
		return as(api.RuAll, []int{sub})
	}
	return []api.Rule{r}, false
}

// model is what Once should answer, by the chapter's words, form by form.
func model(p api.Prog) api.Prog {
	q := p
	q.Forms = nil
	for _, f := range p.Forms {
		made := api.Form{Never: f.Never, Resource: f.Resource}
		for _, r := range f.Rules {
			rules, never := modelRule(p, r)
			made.Rules = append(made.Rules, rules...)
			made.Never = made.Never || never
		}
		if made.Never {
			made.Rules = nil
		}
		q.Forms = append(q.Forms, made)
	}
	return q
}

// lasting is what the model makes of a program again and again, and how often something changed.
func lasting(p api.Prog) (api.Prog, int) {
	for number := 0; ; number++ {
		next := model(p)
		if told(next) == told(p) {
			return p, number
		}
		p = next
	}
}

// P17.2, P17.3: programs of chance become what the chapter's words say.
func TestAsTheModel(t *testing.T) {
	c := chance(17)
	numbers := make([]int, 9)
	for range 20000 {
		p := c.program()
		if errno := ir.Check(p); errno != api.OK {
			t.Fatal(errno, told(p))
		}
		once(t, p, model(p))
		want, number := lasting(p)
		simplified(t, p, number, want)
		numbers[min(number, len(numbers)-1)]++
		if t.Failed() {
			break
		}
	}
	for number, many := range numbers[:5] {
		if many < 100 {
			t.Error("too few of", number, numbers)
		}
	}
}

// P17.4: Simplify once more changes nothing, no program has more rules behind it, and what comes may be.
func TestWhatFollows(t *testing.T) {
	c := chance(174)
	fewer, changed := 0, 0
	for range 20000 {
		p := c.program()
		before := Rules(p)
		next, errno := Once(p)
		if errno != api.OK || ir.Check(next) != api.OK || Rules(next) > before {
			t.Fatalf("error %d, %d rules of %d:\n%s", errno, Rules(next), before, told(next))
		}
		last, number, errno := Simplify(p)
		if errno != api.OK || ir.Check(last) != api.OK || Rules(last) > Rules(next) {
			t.Fatalf("error %d, %d rules of %d:\n%s", errno, Rules(last), Rules(next), told(last))
		}
		if number > 0 != (told(last) != told(p)) || number > 0 != (told(next) != told(p)) {
			t.Fatalf("number %d of\n%s", number, told(p))
		}
		again, more, errno := Simplify(last)
		if errno != api.OK || more != 0 || told(again) != told(last) {
			t.Fatalf("error %d, %d more:\n%s", errno, more, told(again))
		}
		once(t, last, last)
		for range number {
			p, _ = Once(p)
		}
		if told(p) != told(last) {
			t.Fatalf("%d calls of Once:\n%s\nnot\n%s", number, told(p), told(last))
		}
		if Rules(last) < before {
			fewer++
		}
		if number > 0 {
			changed++
		}
	}
	if fewer < 5000 || changed <= fewer {
		t.Error("too few are of use:", fewer, changed)
	}
}

// P17.1 to P17.4: a document's program.
func TestDocument(t *testing.T) {
	table, fault := bundle.Read([]api.Doc{{Uri: "x:/a", Data: []byte(`{
		"type":["string","null","object","array","number","boolean"],"enum":[1],"minLength":0,"required":[],"dependentRequired":{"a":[],"b":["a"]},
		"allOf":[true,{"minItems":0},{"uniqueItems":true}],"oneOf":[false,{"not":{}},{"$ref":"#/$defs/t"}],"if":{},"then":{"title":"t"},"$defs":{"t":{"type":"null"}}}`)}})
	if fault.Code != api.OK {
		t.Fatal(fault)
	}
	edges, fault := refs.Edges(table)
	if fault.Code != api.OK {
		t.Fatal(fault)
	}
	p, errno := ir.Build(table, edges, 0)
	if errno != api.OK || Rules(p) != 14 {
		t.Fatal(errno, Rules(p))
	}
	got, number, errno := Simplify(p)
	if errno != api.OK || number != 2 || len(got.Forms) != len(p.Forms) || Rules(got) != 7 {
		t.Fatal(errno, number, told(got))
	}
	var kinds []api.RuleKind
	for _, r := range got.Forms[0].Rules {
		kinds = append(kinds, r.Kind)
	}
	if !slices.Equal(kinds, []api.RuleKind{api.RuConst, api.RuDepends, api.RuAll, api.RuAll}) {
		t.Error(told(got))
	}
}
