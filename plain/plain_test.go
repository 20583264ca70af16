package plain

import (
	"fmt"
	"strings"
	"testing"

	"caliper/api"
	"caliper/ir"
	"caliper/json"
)

// The forms of around that rules are asked with: two that are yes, two that are no, two that are neither, and the one whose rules are tried.
const (
	y     = 0
	n     = 1
	x     = 2
	z     = 3
	y2    = 4
	n2    = 5
	tried = 6
)

// around is a program with a form of these rules, and beside it some that no call changes.
func around(rules ...api.Rule) api.Prog {
	return api.Prog{
		Forms: []api.Form{
			{Resource: tried},
			{Never: true},
			{Resource: x, Rules: []api.Rule{{Kind: api.RuUnique}}},
			{Rules: []api.Rule{{Kind: api.RuDynamic, Names: []string{"d"}, Subs: []int{y}}, {Kind: api.RuLongest}}},
			{Rules: []api.Rule{}},
			{Never: true, Resource: z, Rules: []api.Rule{}},
			{Resource: z, Rules: rules},
		},
		Dyns: []api.Dyn{{Name: "d", Resource: z, Form: n}, {Name: "", Resource: z, Form: tried}, {Name: "d", Resource: y, Form: y}},
		Root: x,
	}
}

// parsed is a text's value.
func parsed(s string) api.Value {
	v, _, errno := json.Parse([]byte(s))
	if errno != api.OK {
		panic(s)
	}
	return v
}

// toldRule is a rule as a text: all its fields, where nil and empty lists are the same.
func toldRule(r api.Rule) string {
	return fmt.Sprintf("%d: N %d M %d Num %v Vals %v Names %q Pats %q Subs %v", r.Kind, r.N, r.M, r.Num, r.Vals, r.Names, r.Pats, r.Subs)
}

// told is a program as a text.
func told(p api.Prog) string {
	var out strings.Builder
	for i, f := range p.Forms {
		fmt.Fprintf(&out, "form %d: never %v, resource %d\n", i, f.Never, f.Resource)
		for _, r := range f.Rules {
			out.WriteString(toldRule(r) + "\n")
		}
	}
	fmt.Fprintf(&out, "dyns %v, root %d", p.Dyns, p.Root)
	return out.String()
}

// asking is a rule that has Subs alone.
func asking(kind api.RuleKind, subs ...int) api.Rule {
	return api.Rule{Kind: kind, Subs: subs}
}

// P17.1: a form is a yes, if it is not Never and has no Rules.
func TestYes(t *testing.T) {
	for _, f := range []api.Form{{}, {Resource: 3}, {Resource: -7}, {Rules: []api.Rule{}}, {Rules: make([]api.Rule, 0, 9)}} {
		if !Yes(f) {
			t.Error(f)
		}
	}
	for _, f := range []api.Form{
		{Never: true},
		{Never: true, Resource: 1},
		{Never: true, Rules: []api.Rule{}},
		{Rules: []api.Rule{{Kind: api.RuUnique}}},
		{Rules: make([]api.Rule, 1)},
		{Rules: make([]api.Rule, 5)},
		{Never: true, Rules: make([]api.Rule, 1)},
		{Rules: []api.Rule{{Kind: api.RuRequired}}},
		{Rules: []api.Rule{asking(api.RuAll)}},
		{Rules: []api.Rule{{Kind: 99}}},
	} {
		if Yes(f) {
			t.Error(f)
		}
	}
}

// P17.1: a Yes is what the forms of schemas without a demand are.
func TestYesOfSchemas(t *testing.T) {
	for s, want := range map[string]bool{`true`: true, `{}`: true, `{"title":"a","$defs":{"a":false}}`: true, `false`: false, `{"minLength":0}`: false, `{"not":{}}`: false} {
		if got := Yes(ir.Form(parsed(s))); got != want {
			t.Error(s, got)
		}
	}
}

// P17.1: Rules is how many rules all forms have, also of a program that may not be.
func TestRules(t *testing.T) {
	for _, sample := range []struct {
		p    api.Prog
		want int
	}{
		{api.Prog{}, 0},
		{api.Prog{Root: 9, Dyns: make([]api.Dyn, 4)}, 0},
		{api.Prog{Forms: make([]api.Form, 7)}, 0},
		{api.Prog{Forms: []api.Form{{Never: true}}}, 0},
		{api.Prog{Forms: []api.Form{{Rules: make([]api.Rule, 1)}}}, 1},
		{api.Prog{Forms: []api.Form{{Rules: make([]api.Rule, 2)}, {}, {Rules: make([]api.Rule, 3)}}}, 5},
		{api.Prog{Forms: []api.Form{{Never: true, Rules: make([]api.Rule, 2)}, {Never: true}, {Rules: make([]api.Rule, 1, 5)}}, Root: -1}, 3},
		{around(), 3},
		{around(asking(api.RuAll, y, n), asking(api.RuNot, 99)), 5},
	} {
		if got := Rules(sample.p); got != sample.want {
			t.Errorf("%d, not %d:\n%s", got, sample.want, told(sample.p))
		}
	}
}
