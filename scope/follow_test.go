package scope

import (
	"slices"
	"strconv"
	"testing"

	"caliper/api"
	"caliper/ir"
)

// chance is a row of numbers that is the same each time.
type chance uint64

func (c *chance) below(n int) int {
	*c = *c*6364136223846793005 + 1442695040888963407
	return int(uint64(*c>>33) % uint64(n))
}

// subs are some forms' numbers.
func (c *chance) subs(forms, many int) []int {
	var some []int
	for range many {
		some = append(some, c.below(forms))
	}
	return some
}

// rule is a rule that asks forms, or one of those that ask none.
func (c *chance) rule(forms int, names []string) api.Rule {
	branch := func() int { return c.below(forms+1) - 1 }
	switch c.below(10) {
	case 0:
		return api.Rule{Kind: api.RuEnum, Vals: parsed(`[{"b":[1,"c"],"a":{}},[[]]]`).List}
	case 1:
		return asking(api.RuIf, c.below(forms), branch(), branch())
	case 2:
		return api.Rule{Kind: api.RuProps, Names: []string{"b", "a"}, Subs: c.subs(forms, 2)}
	case 3:
		return api.Rule{Kind: api.RuRest, Names: []string{"a"}, Pats: []string{"x", "y"}, Subs: c.subs(forms, 1)}
	case 4:
		return asking(api.RuAll+api.RuleKind(c.below(3)), c.subs(forms, c.below(4))...)
	case 5, 6:
		return ref(c.below(forms))
	}
	return dynamic(names[c.below(len(names))], c.below(forms))
}

// program is one that may be. Not each of the names is sure to be a Dyn's.
func (c *chance) program(forms, dyns int, names []string) api.Prog {
	p := api.Prog{Forms: make([]api.Form, forms), Root: c.below(forms)}
	for i := range p.Forms {
		p.Forms[i].Resource = c.below(forms)
	}
	type place struct {
		name     string
		resource int
	}
	taken := map[place]bool{}
	asked := slices.Clone(names)
	for range dyns {
		d := dyn(names[c.below(len(names))], p.Forms[c.below(forms)].Resource, c.below(forms))
		if at := (place{d.Name, d.Resource}); !taken[at] {
			taken[at] = true
			p.Dyns = append(p.Dyns, d)
			asked = append(asked, d.Name, d.Name)
		}
	}
	for i := range p.Forms {
		if p.Forms[i].Never = i != p.Root && c.below(8) == 0; p.Forms[i].Never {
			continue
		}
		for range 1 + c.below(4) {
			p.Forms[i].Rules = append(p.Forms[i].Rules, c.rule(forms, asked))
		}
	}
	return p
}

// What the chapter's words say, as they stand: names, scopes as rows, instances looked for from the first one on.

func modelNames(p api.Prog) []string {
	var names []string
	for _, d := range p.Dyns {
		if !slices.Contains(names, d.Name) {
			names = append(names, d.Name)
		}
	}
	return names
}

func modelEnter(p api.Prog, names []string, scope []int, resource int) []int {
	entered := slices.Clone(scope)
	for i, name := range names {
		first := slices.IndexFunc(p.Dyns, func(d api.Dyn) bool { return d.Name == name && d.Resource == resource })
		if scope[i] == -1 && first >= 0 {
			entered[i] = p.Dyns[first].Form
		}
	}
	return entered
}

type modelInstance struct {
	form  int
	scope []int
}

func modelClose(p api.Prog) (api.Prog, []modelInstance) {
	names := modelNames(p)
	var all []modelInstance
	number := func(form int, scope []int) int {
		scope = modelEnter(p, names, scope, p.Forms[form].Resource)
		is := func(i modelInstance) bool { return i.form == form && slices.Equal(i.scope, scope) }
		if !slices.ContainsFunc(all, is) {
			all = append(all, modelInstance{form, scope})
		}
		return slices.IndexFunc(all, is)
	}
	number(p.Root, slices.Repeat([]int{-1}, len(names)))
	var q api.Prog
	for n := 0; n < len(all); n++ {
		i := all[n]
		f := api.Form{Never: p.Forms[i.form].Never, Resource: n}
		for _, r := range p.Forms[i.form].Rules {
			made := r
			made.Subs = nil
			for _, sub := range r.Subs {
				if r.Kind == api.RuDynamic {
					made.Kind, made.Names = api.RuRef, nil
					if at := slices.Index(names, r.Names[0]); at >= 0 && i.scope[at] != -1 {
						sub = i.scope[at]
					}
				}
				if sub != -1 {
					sub = number(sub, i.scope)
				}
				made.Subs = append(made.Subs, sub)
			}
			f.Rules = append(f.Rules, made)
		}
		q.Forms = append(q.Forms, f)
	}
	return q, all
}

// tally is what some programs had in all.
type tally struct {
	instances, again, bound int
}

// asTheModel asks for what the model makes of a program, and for what follows of it.
func asTheModel(t *testing.T, p api.Prog, sum *tally) {
	t.Helper()
	if errno := ir.Check(p); errno != api.OK {
		t.Fatal(errno, told(p))
	}
	want, all := modelClose(p)
	var numbers []int
	for _, i := range all {
		if slices.Contains(numbers, i.form) {
			sum.again++
		}
		numbers = append(numbers, i.form)
		if slices.ContainsFunc(i.scope, func(n int) bool { return n != -1 }) {
			sum.bound++
		}
	}
	sum.instances += len(all)
	closed(t, p, numbers, want.Forms...)
	got, _, _ := Close(p, len(all))
	follows(t, got)
}

// follows asks that what Close answered may be, has no dynamic reference, and is as it was when it is closed again.
func follows(t *testing.T, q api.Prog) {
	t.Helper()
	if errno := ir.Check(q); errno != api.OK || len(q.Dyns) != 0 || q.Root != 0 {
		t.Errorf("error %d, root %d, dyns %v", errno, q.Root, q.Dyns)
	}
	for _, f := range q.Forms {
		if slices.ContainsFunc(f.Rules, func(r api.Rule) bool { return r.Kind == api.RuDynamic }) {
			t.Errorf("a dynamic reference is left:\n%s", told(q))
		}
	}
	again, numbers, errno := Close(q, len(q.Forms))
	if errno != api.OK || told(again) != told(q) || len(numbers) != len(q.Forms) {
		t.Errorf("error %d, closed again\n%s\nis\n%s", errno, told(q), told(again))
	}
	for i, n := range numbers {
		if i != n {
			t.Errorf("closed again, instance %d is form %d", i, n)
		}
	}
}

// P18.1, P18.2, P18.3: programs of chance become what the chapter's words say.
func TestAsTheModel(t *testing.T) {
	c, sum := chance(18), tally{}
	names := []string{"a", "", "b", "c"}
	for range 6000 {
		asTheModel(t, c.program(1+c.below(8), c.below(12), names[:1+c.below(4)]), &sum)
		if t.Failed() {
			break
		}
	}
	if sum.again < 5000 || sum.bound < 5000 || sum.instances-sum.again < 5000 {
		t.Error("too few are of use:", sum)
	}
}

// numbered are many names.
func numbered(many int) []string {
	var names []string
	for i := range many {
		names = append(names, "n"+strconv.Itoa(i*7919%many))
	}
	return names
}

// P18.2: with more names than a row of scopes is likely to be made for.
func TestAsTheModelManyNames(t *testing.T) {
	c, sum := chance(182), tally{}
	for _, many := range []int{15, 16, 17, 60, 255, 256, 257, 400} {
		for range 6 {
			asTheModel(t, c.program(2+c.below(8), c.below(3*many), numbered(many)), &sum)
		}
	}
	if sum.again < 500 || sum.bound < 500 {
		t.Error("too few are of use:", sum)
	}
}

// P18.1: Names, Enter and Bound of programs of chance, also of those that may not be.
func TestScopesAsTheModel(t *testing.T) {
	c := chance(181)
	row := []string{"a", "", "b", "c", "d"}
	for range 20000 {
		var p api.Prog
		for range c.below(9) {
			p.Dyns = append(p.Dyns, dyn(row[c.below(4)], c.below(5)-1, c.below(4)-1))
		}
		names, resource := modelNames(p), c.below(6)-1
		if got := Names(p); !slices.Equal(got, names) {
			t.Fatal(got, names, p.Dyns)
		}
		scope := make([]int, max(0, len(names)+c.below(3)*c.below(3)-1))
		for i := range scope {
			scope[i] = c.below(4) - 2
		}
		want := scope
		if len(scope) == len(names) {
			want = modelEnter(p, names, scope, resource)
		}
		if got := Enter(p, scope, resource); !slices.Equal(got, want) {
			t.Fatal(got, want, scope, resource, p.Dyns)
		}
		for _, name := range row {
			number := -1
			if at := slices.Index(names, name); at >= 0 && at < len(scope) {
				number = scope[at]
			}
			if got := Bound(p, scope, name); got != number {
				t.Fatal(got, number, scope, name, p.Dyns)
			}
		}
	}
}

// reached are the forms that Root comes to, rising.
func reached(p api.Prog) []int {
	come := make([]bool, len(p.Forms))
	come[p.Root] = true
	for range p.Forms {
		for i, f := range p.Forms {
			for _, r := range f.Rules {
				for _, sub := range r.Subs {
					if come[i] && sub != -1 {
						come[sub] = true
					}
				}
			}
		}
	}
	var numbers []int
	for i, yes := range come {
		if yes {
			numbers = append(numbers, i)
		}
	}
	return numbers
}

// P18.3: without Dyns it is what Root reaches, each form once; a dynamic reference asks its Sub.
func TestWithoutDynsAsReached(t *testing.T) {
	c := chance(183)
	whole := 0
	for range 4000 {
		p := c.program(1+c.below(9), 0, []string{"a", "b"})
		want := reached(p)
		q, numbers, errno := Close(p, len(want))
		if errno != api.OK || len(numbers) != len(want) || numbers[0] != p.Root || len(q.Forms) != len(want) {
			t.Fatal(errno, numbers, want)
		}
		for i, f := range q.Forms {
			asks := p.Forms[numbers[i]]
			if f.Never != asks.Never || len(f.Rules) != len(asks.Rules) {
				t.Fatal(i, told(p), told(q))
			}
			for j, r := range f.Rules {
				for k, sub := range r.Subs {
					if was := asks.Rules[j].Subs[k]; (sub == -1) != (was == -1) || sub != -1 && numbers[sub] != was {
						t.Fatal(i, j, k, told(p), told(q))
					}
				}
			}
		}
		follows(t, q)
		if slices.Sort(numbers); !slices.Equal(numbers, want) {
			t.Fatal(numbers, want)
		}
		if len(want) == len(p.Forms) {
			whole++
		}
	}
	if whole < 100 || whole > 3900 {
		t.Error("too many are alike:", whole)
	}
}
