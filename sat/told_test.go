package sat

import (
	"fmt"
	"slices"
	"strings"
	"testing"

	"caliper/api"
	"caliper/bundle"
	"caliper/ir"
	"caliper/json"
	"caliper/refs"
)

// parsed is a text's value.
func parsed(s string) api.Value {
	v, _, errno := json.Parse([]byte(s))
	if errno != api.OK {
		panic(s)
	}
	return v
}

// built is the program of a schema.
func built(t *testing.T, schema string) api.Prog {
	t.Helper()
	return bundled(t, api.Doc{Uri: "x:/a", Data: []byte(schema)})
}

// bundled is the program of the first of some documents.
func bundled(t *testing.T, docs ...api.Doc) api.Prog {
	t.Helper()
	table, fault := bundle.Read(docs)
	if fault.Code != api.OK {
		t.Fatal(fault)
	}
	edges, fault := refs.Edges(table)
	if fault.Code != api.OK {
		t.Fatal(fault)
	}
	root, errno := bundle.Root(table, 0)
	if errno != api.OK {
		t.Fatal(errno)
	}
	p, errno := ir.Build(table, edges, root)
	if errno != api.OK {
		t.Fatal(errno)
	}
	return p
}

// told is a program as a text, where nil and empty lists are the same.
func told(p api.Prog) string {
	var out strings.Builder
	for i, f := range p.Forms {
		fmt.Fprintf(&out, "form %d: never %v, resource %d\n", i, f.Never, f.Resource)
		for _, r := range f.Rules {
			fmt.Fprintf(&out, "%d: N %d M %d Num %v Vals %v Names %q Pats %q Subs %v\n", r.Kind, r.N, r.M, r.Num, r.Vals, r.Names, r.Pats, r.Subs)
		}
	}
	fmt.Fprintf(&out, "dyns %v, root %d", p.Dyns, p.Root)
	return out.String()
}

// cut is a text, or how it begins, if it is long.
func cut(s string) string {
	if len(s) > 3000 {
		return s[:3000] + " .."
	}
	return s
}

// asks is a rule that has Subs alone.
func asks(kind api.RuleKind, subs ...int) api.Rule {
	return api.Rule{Kind: kind, Subs: subs}
}

// form is a form of these rules.
func form(rules ...api.Rule) api.Form {
	return api.Form{Rules: rules}
}

// of is a program of forms, the first of which is Root.
func of(forms ...api.Form) api.Prog {
	return api.Prog{Forms: forms}
}

// The forms that each program which around makes has, and the one with its rules.
const (
	tried   = iota
	yes     // takes all
	no      // takes nothing
	number  // takes numbers
	text    // takes strings
	first   // takes all, marks element 0 of arrays, and member a
	counted // takes all, marks the numbers in arrays, and members b and c
	failing // takes nothing, though its rules ahead mark all
	short   // takes arrays and objects of up to two elements, marks all
)

// around is a program whose Root has these rules. The other forms are there to be asked.
func around(rules ...api.Rule) api.Prog {
	a, bc := []string{"a"}, []string{"b", "c"}
	return of(
		form(rules...),
		form(),
		api.Form{Never: true},
		form(typed("number")),
		form(typed("string")),
		form(asks(api.RuPrefix, yes), api.Rule{Kind: api.RuProps, Names: a, Subs: []int{yes}}),
		form(api.Rule{Kind: api.RuContains, M: -1, Subs: []int{number}}, api.Rule{Kind: api.RuProps, Names: bc, Subs: []int{yes, yes}}),
		form(asks(api.RuItems, yes), asks(api.RuRest, yes), asks(api.RuRef, no)),
		form(typed("array object"), asks(api.RuItems, yes), asks(api.RuRest, yes), api.Rule{Kind: api.RuMostItems, N: 2}, api.Rule{Kind: api.RuMostProps, N: 2}),
	)
}

// typed is a RuType of names with blanks between.
func typed(names string) api.Rule {
	return api.Rule{Kind: api.RuType, Names: strings.Fields(names)}
}

// takes asks that a program takes a value, with these marks.
func takes(t *testing.T, p api.Prog, v string, marks ...int) {
	t.Helper()
	ok, got, errno := Sat(p, parsed(v))
	if !ok || errno != api.OK || !slices.Equal(got, marks) {
		t.Errorf("%s: %v, marks %v, error %d, not marks %v, by\n%s", cut(v), ok, got, errno, marks, cut(told(p)))
	}
}

// leaves asks that a program does not take values.
func leaves(t *testing.T, p api.Prog, values ...string) {
	t.Helper()
	for _, v := range values {
		ok, got, errno := Sat(p, parsed(v))
		if ok || errno != api.OK || len(got) > 0 {
			t.Errorf("%s: %v, marks %v, error %d by\n%s", cut(v), ok, got, errno, cut(told(p)))
		}
	}
}

// keeps asks that values without marks keep a rule.
func keeps(t *testing.T, r api.Rule, values ...string) {
	t.Helper()
	for _, v := range values {
		takes(t, around(r), v)
	}
}

// breaks asks that values do not keep a rule.
func breaks(t *testing.T, r api.Rule, values ...string) {
	t.Helper()
	leaves(t, around(r), values...)
}

// marked asks that a program takes a value, with these marks.
func marked(t *testing.T, p api.Prog, v api.Value, marks []int) {
	t.Helper()
	ok, got, errno := Sat(p, v)
	if !ok || errno != api.OK || !slices.Equal(got, marks) {
		t.Errorf("%v, marks %v, error %d, not marks %v, by\n%s", ok, got, errno, marks, cut(told(p)))
	}
}
