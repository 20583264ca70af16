package plain

import (
	"slices"
	"testing"
	"time"

	"caliper/api"
)

// simplified asks for what Simplify makes of a program, and with what number.
func simplified(t *testing.T, p api.Prog, number int, want api.Prog) {
	t.Helper()
	before := told(p)
	got, changes, errno := Simplify(p)
	if errno != api.OK || changes != number || told(got) != told(want) {
		t.Errorf("error %d, of\n%s\ncame with %d, not %d:\n%s\nnot\n%s", errno, before, changes, number, told(got), told(want))
	}
	again, changes, errno := Simplify(got)
	if errno != api.OK || changes != 0 || told(again) != told(got) {
		t.Errorf("error %d, once more of\n%s\ncame with %d\n%s", errno, told(got), changes, told(again))
	}
	if told(p) != before {
		t.Errorf("what was\n%s\nwas changed to\n%s", before, told(p))
	}
}

// formsOf are forms of one rule each.
func formsOf(rules ...api.Rule) []api.Form {
	var forms []api.Form
	for _, r := range rules {
		forms = append(forms, api.Form{Rules: []api.Rule{r}})
	}
	return forms
}

// Chapter 17, example 1.
func TestExample(t *testing.T) {
	p := api.Prog{Forms: append(formsOf(asking(api.RuNot, 1), asking(api.RuNot, 2)), api.Form{})}
	simplified(t, p, 2, api.Prog{Forms: []api.Form{{}, {Never: true}, {}}})
	next, errno := Once(p)
	want := api.Prog{Forms: []api.Form{p.Forms[0], {Never: true}, {}}}
	if errno != api.OK || told(next) != told(want) {
		t.Error(errno, told(next))
	}
	once(t, want, api.Prog{Forms: []api.Form{{}, {Never: true}, {}}})
}

// P17.3: of a program that is simple already nothing changes.
func TestSimplifyNothing(t *testing.T) {
	simplified(t, around(), 0, around())
	simple := around(asking(api.RuAll, x), asking(api.RuAny, x, y), asking(api.RuOne, y, z), asking(api.RuIf, x, y, n), asking(api.RuNot, x), asking(api.RuRef, tried), asking(api.RuNames, n))
	simplified(t, simple, 0, simple)
	simplified(t, api.Prog{Forms: make([]api.Form, 2), Root: 1}, 0, api.Prog{Forms: make([]api.Form, 2), Root: 1})
	simplified(t, api.Prog{Forms: []api.Form{{Never: true}}}, 0, api.Prog{Forms: []api.Form{{Never: true}}})
	loop := api.Prog{Forms: formsOf(asking(api.RuNot, 1), asking(api.RuRef, 2), asking(api.RuAny, 0))}
	simplified(t, loop, 0, loop)
}

// P17.3: a rule that becomes another one is asked again in the next call, and the number is how many calls changed something.
func TestSimplifyInSteps(t *testing.T) {
	never := around()
	never.Forms[tried].Never = true
	for _, sample := range []struct {
		rule   api.Rule
		number int
		want   api.Prog
	}{
		{asking(api.RuNot, n), 1, around()},
		{asking(api.RuRef, n), 1, never},
		{asking(api.RuOne, y), 2, around()},
		{asking(api.RuOne, n, y2), 2, around()},
		{asking(api.RuOne, x), 1, around(asking(api.RuAll, x))},
		{asking(api.RuIf, y, -1, n), 1, around()},
		{asking(api.RuIf, y, y, n), 2, around()},
		{asking(api.RuIf, y, n, y), 2, never},
		{asking(api.RuIf, n, n, y), 2, around()},
		{asking(api.RuIf, n, y, n), 2, never},
		{asking(api.RuIf, n, y, x), 1, around(asking(api.RuAll, x))},
		{asking(api.RuIf, n, y, tried), 1, around(asking(api.RuAll, tried))},
		{asking(api.RuAny, n, x, n), 1, around(asking(api.RuAny, x))},
		{asking(api.RuAll, y, x, y), 1, around(asking(api.RuAll, x))},
		{api.Rule{Kind: api.RuEnum, Vals: make([]api.Value, 1)}, 1, around(api.Rule{Kind: api.RuConst, Vals: make([]api.Value, 1)})},
	} {
		simplified(t, around(sample.rule), sample.number, sample.want)
	}
	simplified(t, around(asking(api.RuOne, y), asking(api.RuIf, n, n, y), asking(api.RuAll), asking(api.RuNot, n2)), 2, around())
	simplified(t, around(asking(api.RuOne, y), asking(api.RuRef, n)), 1, never)
	simplified(t, around(asking(api.RuOne, n, x), asking(api.RuIf, y, n, n)), 2, never)
}

// P17.3: forms wait for one another; the number is that of the longest row.
func TestSimplifyRows(t *testing.T) {
	unique := api.Rule{Kind: api.RuUnique}
	p := api.Prog{Forms: formsOf(asking(api.RuRef, 1), asking(api.RuAll, 2), asking(api.RuNot, 3), asking(api.RuAny), asking(api.RuNot, 5), asking(api.RuOne, 6, 6), api.Rule{Kind: api.RuShortest}, asking(api.RuAll, 0, 4, 8), unique)}
	want := api.Prog{Forms: []api.Form{{}, {}, {}, {Never: true}, {}, {Never: true}, {}, {Rules: []api.Rule{asking(api.RuAll, 8)}}, {Rules: []api.Rule{unique}}}}
	simplified(t, p, 5, want)
	steps := []string{"", "", "", "", "", ""}
	for i := range steps {
		steps[i] = told(p)
		p, _ = Once(p)
	}
	if slices.Contains(steps[:5], steps[5]) || steps[5] != told(want) || told(p) != told(want) {
		t.Error(steps)
	}
	p = api.Prog{Forms: formsOf(asking(api.RuOne, 1, 2, 3), asking(api.RuRef, 2), asking(api.RuRef, 3), asking(api.RuNot, 4), api.Rule{Kind: api.RuLeastItems})}
	simplified(t, p, 5, api.Prog{Forms: []api.Form{{Never: true}, {Never: true}, {Never: true}, {Never: true}, {}}})
	p.Forms[4] = api.Form{Never: true}
	simplified(t, p, 3, api.Prog{Forms: []api.Form{{Never: true}, {}, {}, {}, {Never: true}}})
}

// P17.3: Resources, Dyns and Root stay, whatever becomes of the forms.
func TestSimplifyKeeps(t *testing.T) {
	p := around(asking(api.RuOne, n, y), asking(api.RuNot, 7))
	p.Forms = append(p.Forms, api.Form{Resource: tried, Rules: []api.Rule{asking(api.RuIf, n, n, y)}})
	p.Root = 7
	p.Dyns = append(p.Dyns, api.Dyn{Name: "e", Resource: 7, Form: 7})
	want := p
	want.Forms = slices.Clone(p.Forms)
	want.Forms[tried] = api.Form{Resource: z, Never: true}
	want.Forms[7] = api.Form{Resource: tried}
	simplified(t, p, 3, want)
}

// within asks that something ends soon enough, as it does where long rows do not cost the square of their length.
func within(t *testing.T, seconds int, what func()) {
	t.Helper()
	begun := time.Now()
	what()
	if taken := time.Since(begun); taken > time.Duration(seconds)*time.Second {
		t.Error("it took", taken)
	}
}

// P17.3, R1: long rows, in which each form waits for the next one or for the one ahead of it.
func TestSimplifyLongRows(t *testing.T) {
	const many = 100000
	for _, step := range []int{1, -1} {
		last := 0
		if step > 0 {
			last = many - 1
		}
		for _, kind := range []api.RuleKind{api.RuNot, api.RuRef, api.RuAll, api.RuAny} {
			for _, never := range []bool{false, true} {
				forms := make([]api.Form, many)
				for i := range forms {
					if i != last {
						forms[i].Rules = []api.Rule{asking(kind, i+step)}
					}
				}
				forms[last].Never = never
				within(t, 20, func() {
					got, number, errno := Simplify(api.Prog{Forms: forms})
					if errno != api.OK || number != many-1 || Rules(got) > 0 {
						t.Error(step, kind, never, errno, number, Rules(got))
					}
					for i, f := range got.Forms {
						turns := kind == api.RuNot && (last-i)%2 != 0
						if f.Never != (never != turns) {
							t.Fatal(step, kind, never, i, f)
						}
					}
				})
			}
		}
	}
}

// P17.3, R1: a form with many rules, and rules with many Subs, each of which is known only later than the one ahead of it.
func TestSimplifyManyAskers(t *testing.T) {
	const many = 8000
	forms := make([]api.Form, many+4)
	for i := range many {
		if i > 0 {
			forms[i].Rules = []api.Rule{asking(api.RuRef, i-1)}
		}
		forms[many].Rules = append(forms[many].Rules, api.Rule{Kind: api.RuWhen, Names: []string{"a"}, Subs: []int{i}})
	}
	for k, kind := range []api.RuleKind{api.RuAll, api.RuAny} {
		r := asking(kind)
		for i := range many {
			r.Subs = append(r.Subs, i, i, many+3)
		}
		forms[many+1+k].Rules = []api.Rule{r}
	}
	forms[many+3].Rules = []api.Rule{{Kind: api.RuUnique}}
	within(t, 20, func() {
		got, number, errno := Simplify(api.Prog{Forms: forms})
		if errno != api.OK || number != many || Rules(got) != 3 || !Yes(got.Forms[many]) || Yes(got.Forms[many+1]) {
			t.Fatal(errno, number, Rules(got))
		}
		left := got.Forms[many+1].Rules[0].Subs
		if len(left) != many || slices.Min(left) != many+3 || !slices.Equal(got.Forms[many+2].Rules[0].Subs, forms[many+2].Rules[0].Subs) {
			t.Error(len(left))
		}
	})
}
