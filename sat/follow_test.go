package sat

import (
	"slices"
	"testing"

	"caliper/api"
	"caliper/plain"
	"caliper/scope"
	"caliper/value"
)

// chance is a row of numbers that is the same each time.
type chance uint64

func (c *chance) below(n int) int {
	*c = *c*6364136223846793005 + 1442695040888963407
	return int(uint64(*c>>33) % uint64(n))
}

// some are elements of a row, some of them perhaps twice.
func some[T any](c *chance, row []T, least, most int) []T {
	var out []T
	for range least + c.below(most-least+1) {
		out = append(out, row[c.below(len(row))])
	}
	return out
}

// The keys, texts and patterns of chance.
func letters() []string { return []string{"a", "b", "ab", "", "é"} }

func patterns() []string { return []string{"a", "^a", "b$", "", "^$", "é|^b", "."} }

// value is any value of a few levels.
func (c *chance) value(levels int) api.Value {
	kind := api.Kind(c.below(7))
	if levels == 0 {
		kind = api.Kind(c.below(5))
	} else if c.below(5) > 0 {
		kind = api.Array + api.Kind(c.below(2))
	}
	v := api.Value{Kind: kind}
	switch kind {
	case api.Number:
		return parsed([]string{"0", "1", "1.5", "-2", "10", "0.1"}[c.below(6)])
	case api.String:
		v.Text = letters()[c.below(5)]
	case api.Array:
		for range c.below(3) + c.below(3) {
			v.List = append(v.List, c.value(levels-1))
		}
	case api.Object:
		for _, key := range c.shuffled(5)[:c.below(3)+c.below(4)] {
			v.Keys, v.List = append(v.Keys, letters()[key]), append(v.List, c.value(levels-1))
		}
	}
	return v
}

// shuffled are the numbers from 0 below n in any order.
func (c *chance) shuffled(n int) []int {
	order := make([]int, n)
	for i := range order {
		j := c.below(i + 1)
		order[i], order[j] = order[j], i
	}
	return order
}

// rule is a rule of any kind that is asked by a form with this number; what asks of the value itself asks those behind it, as long as there are any.
func (c *chance) rule(form, forms int) api.Rule {
	kind := api.RuleKind(1 + c.below(35))
	if c.below(2) == 0 {
		kind = api.RuAll + api.RuleKind(c.below(17))
	}
	r := api.Rule{Kind: kind}
	if kind >= api.RuAll && kind <= api.RuDynamic && form == forms-1 {
		r.Kind = api.RuPrefix + api.RuleKind(c.below(9))
	}
	later := func() int { return form + 1 + c.below(forms-form-1) }
	branch := func() int {
		if c.below(3) == 0 {
			return -1
		}
		return later()
	}
	number := parsed([]string{"0.5", "1", "1.5", "10"}[c.below(4)]).Num
	switch r.Kind {
	case api.RuType:
		r.Names = some(c, []string{"null", "boolean", "number", "string", "array", "object", "integer"}, 1, 9)
	case api.RuConst, api.RuEnum:
		r.Vals = []api.Value{c.value(1)}
		for r.Kind == api.RuEnum && c.below(4) > 0 {
			r.Vals = append(r.Vals, c.value(1))
		}
	case api.RuMultiple, api.RuMax, api.RuMaxOut, api.RuMin, api.RuMinOut:
		r.Num = number
	case api.RuLongest, api.RuMostItems, api.RuMostProps:
		r.N = 1 + c.below(3)
	case api.RuShortest, api.RuLeastItems, api.RuLeastProps:
		r.N = c.below(3)
	case api.RuPattern:
		r.Pats = some(c, patterns(), 1, 1)
	case api.RuRequired:
		r.Names = some(c, letters(), 0, 2)
	case api.RuDepends:
		r.Names = some(c, letters(), 1, 3)
	case api.RuAll, api.RuAny, api.RuOne:
		for range c.below(4) {
			r.Subs = append(r.Subs, later())
		}
	case api.RuIf:
		r.Subs = []int{later(), branch(), branch()}
	case api.RuNot, api.RuRef:
		r.Subs = []int{later()}
	case api.RuWhen:
		r.Names, r.Subs = some(c, letters(), 1, 1), []int{later()}
	case api.RuDynamic:
		r.Names, r.Subs = some(c, []string{"d", "e", "f"}, 1, 1), []int{later()}
	default:
		c.parts(&r, forms)
	}
	return r
}

// parts completes a rule that asks of a value's parts, any forms.
func (c *chance) parts(r *api.Rule, forms int) {
	r.Subs = []int{c.below(forms)}
	many := func(least int) {
		r.Subs = nil
		for range least {
			r.Subs = append(r.Subs, c.below(forms))
		}
	}
	switch r.Kind {
	case api.RuPrefix:
		many(c.below(4))
	case api.RuItems:
		r.N = c.below(3)
	case api.RuContains:
		r.N, r.M = c.below(3), c.below(4)-1
	case api.RuProps:
		r.Names = some(c, letters(), 0, 3)
		many(len(r.Names))
	case api.RuMatching:
		r.Pats = some(c, patterns(), 0, 2)
		many(len(r.Pats))
	case api.RuRest:
		r.Names, r.Pats = some(c, letters(), 0, 3), some(c, patterns()[:3], 0, 1)
	}
}

// program is one that may be asked, of a few forms. Dynamic anchors are such that no form comes to itself.
func (c *chance) program() api.Prog {
	for {
		forms := 3 + c.below(7)
		p := api.Prog{Forms: make([]api.Form, forms), Root: c.below(1 + c.below(forms))}
		for i := range p.Forms {
			p.Forms[i].Resource = c.below(1 + c.below(forms))
			if p.Forms[i].Never = c.below(9) == 0; p.Forms[i].Never {
				continue
			}
			for range c.below(5) {
				p.Forms[i].Rules = append(p.Forms[i].Rules, c.rule(i, forms))
			}
		}
		for _, resource := range c.shuffled(forms) {
			for _, name := range []string{"d", "e"} {
				if c.below(2) == 0 {
					p.Dyns = append(p.Dyns, dyn(name, resource, forms-1-c.below(1+c.below(forms))))
				}
			}
		}
		if Check(p) == api.OK {
			return p
		}
	}
}

// tally is what became of some questions.
type tally struct {
	taken, left, marked, over int
}

// P19.1, P19.2: programs of chance say of values of chance what the chapter's words say.
func TestAsTheModel(t *testing.T) {
	c := chance(191)
	var sum tally
	for range 25000 {
		p := c.program()
		for range 4 {
			v := c.value(3)
			want, marks, ok := modelSat(p, v, 20000)
			if !ok {
				sum.over++
				continue
			}
			got, l, errno := Sat(p, v)
			if got != want || errno != api.OK || !slices.Equal(l, marks) {
				s, _ := value.Text(v)
				t.Fatalf("%s: %v %v %d, not %v %v, by\n%s", s, got, l, errno, want, marks, told(p))
			}
			switch {
			case !got:
				sum.left++
			case len(marks) > 0:
				sum.marked++
			default:
				sum.taken++
			}
		}
	}
	if sum.left < 20000 || sum.marked < 5000 || sum.taken < 20000 || sum.over > 100 {
		t.Error("too few are of use:", sum)
	}
}

// mixed is an equal value, whose members stand in another order; of an object with the places that its members have now.
func (c *chance) mixed(v api.Value) (api.Value, []int) {
	order := make([]int, len(v.List))
	for i := range order {
		order[i] = i
	}
	if v.Kind == api.Object {
		order = c.shuffled(len(v.List))
	}
	now := v
	now.List, now.Keys = make([]api.Value, len(v.List)), make([]string, len(v.Keys))
	for i, place := range order {
		now.List[place], _ = c.mixed(v.List[i])
		if v.Kind == api.Object {
			now.Keys[place] = v.Keys[i]
		}
	}
	return now, order
}

// agrees asks that a program and value are answered just so.
func agrees(t *testing.T, why string, p api.Prog, v api.Value, takes bool, marks []int) {
	t.Helper()
	got, l, errno := Sat(p, v)
	if got != takes || errno != api.OK || !slices.Equal(l, marks) {
		s, _ := value.Text(v)
		t.Errorf("%s: %s: %v %v %d, not %v %v, by\n%s", why, s, got, l, errno, takes, marks, told(p))
	}
}

// P19.3: the order of members counts only for the marks' numbers; Equal values, simplified and closed programs are answered alike.
func TestFollows(t *testing.T) {
	c := chance(193)
	changed, again, moved := 0, 0, 0
	for range 12000 {
		p := c.program()
		simple, changes, errno := plain.Simplify(p)
		if errno != api.OK {
			t.Fatal(errno)
		}
		closed, numbers, errno := scope.Close(p, 3000)
		if errno != api.OK {
			continue
		}
		both, _, _ := scope.Close(simple, 3000)
		for range 3 {
			v := c.value(3)
			takes, marks, errno := Sat(p, v)
			if errno != api.OK {
				t.Fatal(errno)
			}
			agrees(t, "simplified", simple, v, takes, marks)
			agrees(t, "closed", closed, v, takes, marks)
			agrees(t, "simplified and closed", both, v, takes, marks)
			now, places := c.mixed(v)
			if !value.Equal(v, now) {
				t.Fatal(v, now)
			}
			var want []int
			for _, i := range marks {
				want = append(want, places[i])
				if places[i] != i {
					moved++
				}
			}
			slices.Sort(want)
			agrees(t, "in another order", p, now, takes, want)
			agrees(t, "sorted", p, value.Sorted(now), takes, sortedMarks(v, marks))
		}
		if t.Failed() {
			return
		}
		changed += changes
		for i, n := range numbers {
			if slices.Contains(numbers[:i], n) {
				again++
			}
		}
	}
	if changed < 5000 || moved < 1000 || again < 2000 {
		t.Error("too few are of use:", changed, moved, again)
	}
}

// sortedMarks are an object's marks, where its members stand by rising keys.
func sortedMarks(v api.Value, marks []int) []int {
	if v.Kind != api.Object {
		return marks
	}
	keys := slices.Clone(v.Keys)
	slices.Sort(keys)
	var now []int
	for _, i := range marks {
		now = append(now, slices.Index(keys, v.Keys[i]))
	}
	slices.Sort(now)
	return now
}

// P19.3: texts of equal values.
func TestEqualTexts(t *testing.T) {
	p := built(t, `{"properties":{"a":{"enum":[1,[2.50,{"x":null,"y":0}]]},"b":{"type":"integer","multipleOf":0.01}},"patternProperties":{"é":{"const":"aé"}},"unevaluatedProperties":{"not":{"type":"null"}},"minProperties":1}`)
	for _, texts := range [][]string{
		{`{"a":1}`, `{"a":1.0}`, `{"a":10e-1}`, `{"\u0061":0.1e1}`, ` { "a" : 1 } `},
		{`{"a":[2.5,{"x":null,"y":0}]}`, `{"a":[25e-1,{"y":-0.0,"x":null}]}`},
		{`{"b":-0}`, `{"b":0.000}`, `{"b":0e7}`},
		{`{"é":"aé"}`, `{"\u00e9":"\u0061\u00E9"}`},
	} {
		for _, v := range texts {
			takes(t, p, v, 0)
		}
	}
	for _, texts := range [][]string{
		{`{"a":2}`, `{"a":2.0}`}, {`{"b":0.5}`, `{"b":5e-1}`}, {`{"é":"ae"}`, `{"\u00e9":"\u0061e"}`}, {`{"c":null}`, `{"\u0063":null}`}, {`{}`, ` { } `},
	} {
		leaves(t, p, texts...)
	}
}
