package scope

import (
	"fmt"
	"slices"
	"strings"
	"testing"

	"caliper/api"
	"caliper/json"
)

// parsed is a text's value.
func parsed(s string) api.Value {
	v, _, errno := json.Parse([]byte(s))
	if errno != api.OK {
		panic(s)
	}
	return v
}

// told is a program as a text, where nil and empty lists are the same.
func told(p api.Prog) string {
	var out strings.Builder
	for i, f := range p.Forms {
		fmt.Fprintf(&out, "form %d: never %v, resource %d\n", i, f.Never, f.Resource)
		for _, r := range f.Rules {
			fmt.Fprintf(&out, "%d: N %d M %d Num %v Vals %v Names %q Pats %q Subs %v\n", r.Kind, r.N, r.M, r.Num, r.Vals, r.Names, r.Pats, r.Subs)
		}
	}
	fmt.Fprintf(&out, "dyns %v, root %d", p.Dyns, p.Root)
	return out.String()
}

// asking is a rule that has Subs alone.
func asking(kind api.RuleKind, subs ...int) api.Rule {
	return api.Rule{Kind: kind, Subs: subs}
}

// ref is a rule that asks a form.
func ref(sub int) api.Rule {
	return asking(api.RuRef, sub)
}

// dynamic is a dynamic reference.
func dynamic(name string, sub int) api.Rule {
	return api.Rule{Kind: api.RuDynamic, Names: []string{name}, Subs: []int{sub}}
}

// form is one of a resource, with rules.
func form(resource int, rules ...api.Rule) api.Form {
	return api.Form{Resource: resource, Rules: rules}
}

// closed asks for what Close makes of a program: these forms, of which each has its own number as its Resource, being of those numbers; and that one instance fewer is too few.
func closed(t *testing.T, p api.Prog, numbers []int, forms ...api.Form) {
	t.Helper()
	want := api.Prog{Forms: slices.Clone(forms)}
	for i := range want.Forms {
		want.Forms[i].Resource = i
	}
	before := told(p)
	for _, most := range []int{len(forms), len(forms) + 1, 1 << 60} {
		got, list, errno := Close(p, most)
		if errno != api.OK || told(got) != told(want) || !slices.Equal(list, numbers) {
			t.Errorf("error %d, of\n%s\ncame %v:\n%s\nnot %v:\n%s", errno, before, list, told(got), numbers, told(want))
		}
	}
	for _, most := range []int{len(forms) - 1, 0, -1, -1 << 63} {
		refused(t, p, most, api.ErrMany)
	}
	if told(p) != before {
		t.Errorf("what was\n%s\nwas changed to\n%s", before, told(p))
	}
}

// refused asks for an error, and nothing beside it.
func refused(t *testing.T, p api.Prog, most int, want api.Errno) {
	t.Helper()
	got, list, errno := Close(p, most)
	if errno != want || len(got.Forms) != 0 || len(got.Dyns) != 0 || got.Root != 0 || len(list) != 0 {
		t.Errorf("error %d, not %d, with %d:\n%s\n%v", errno, want, most, told(got), list)
	}
}
