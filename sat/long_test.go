package sat

import (
	"strconv"
	"testing"
	"time"

	"caliper/api"
)

// soon asks that something ends soon enough, as it does where nothing is asked twice and what is long does not cost the square of its length.
func soon(t *testing.T, what func()) {
	t.Helper()
	begun := time.Now()
	what()
	if taken := time.Since(begun); taken > 20*time.Second {
		t.Error("it took", taken)
	}
}

// row is a program of forms each of which asks the next one; the last one has rules of its own.
func row(many int, ask func(next int) api.Rule, last ...api.Rule) api.Prog {
	p := api.Prog{Forms: make([]api.Form, many+1)}
	for i := range many {
		p.Forms[i].Rules = []api.Rule{ask(i + 1)}
	}
	p.Forms[many].Rules = last
	return p
}

// nested is a value in so many arrays, or objects.
func nested(v api.Value, levels int) api.Value {
	for i := range levels {
		if i%2 == 0 {
			v = api.Value{Kind: api.Array, List: []api.Value{v}}
		} else {
			v = api.Value{Kind: api.Object, List: []api.Value{v}, Keys: []string{"a"}}
		}
	}
	return v
}

// says asks for an answer, and for how many marks there are.
func says(t *testing.T, p api.Prog, v api.Value, takes bool, marks int) {
	t.Helper()
	soon(t, func() {
		t.Helper()
		if ok, l, errno := Sat(p, v); ok != takes || len(l) != marks || errno != api.OK {
			t.Errorf("%v, %d marks, error %d", ok, len(l), errno)
		}
	})
}

// R1: long rows of forms, by each kind of rules.
func TestLongRows(t *testing.T) {
	const many = 100000
	for i := range sameRules(0) {
		ask := func(next int) api.Rule {
			r := sameRules(next)[i]
			for j, sub := range r.Subs {
				if sub == yes {
					r.Subs[j] = next
				}
			}
			return r
		}
		// A RuOne of two that are the same takes nothing; a RuNot turns, and there is an even number of them; what has no branch to go keeps.
		takes := ask(9).Kind != api.RuOne
		says(t, row(many, ask), nested(api.Value{}, 2), takes, 0)
	}
}

// R1: long rows of forms for each of a value's levels.
func TestDeepValues(t *testing.T) {
	for _, many := range []int{0, 1, 50} {
		ref := func(next int) api.Rule { return asks(api.RuAll, next) }
		parts := []api.Rule{asks(api.RuItems, 0), asks(api.RuRest, 0), typed("array object null")}
		says(t, row(many, ref, parts...), nested(api.Value{}, api.MaxDepth), true, 1)
		says(t, row(many, ref, parts...), nested(api.Value{Kind: api.True}, api.MaxDepth), false, 0)
		says(t, row(many, ref, asks(api.RuLeftItems, 0), asks(api.RuLeftProps, 0)), nested(api.Value{}, api.MaxDepth), true, 1)
	}
}

// W3: forms that ask the next ones several times blow up where nothing is known, of the value itself and of its parts.
func TestNoBlowUp(t *testing.T) {
	some := func(kind api.RuleKind) func(int) api.Rule {
		return func(next int) api.Rule { return asks(kind, next, next, next) }
	}
	says(t, row(2000, some(api.RuAll)), api.Value{}, true, 0)
	says(t, row(2000, some(api.RuAny)), api.Value{}, true, 0)
	says(t, row(2000, some(api.RuOne)), api.Value{}, false, 0)
	says(t, row(2000, some(api.RuIf)), api.Value{}, true, 0)
	says(t, row(2000, some(api.RuAny), asks(api.RuAll), typed("string")), api.Value{}, false, 0)
	p := around(asks(api.RuItems, tried), asks(api.RuLeftItems, tried), asks(api.RuPrefix, tried), asks(api.RuRest, tried), api.Rule{Kind: api.RuContains, M: -1, Subs: []int{tried}}, api.Rule{Kind: api.RuMatching, Pats: []string{"", ""}, Subs: []int{tried, tried}})
	says(t, p, nested(api.Value{}, 3000), true, 1)
}

// R1: values with many elements, and objects with many members by many names.
func TestWideValues(t *testing.T) {
	const many = 100000
	v := api.Value{Kind: api.Array, List: make([]api.Value, many)}
	says(t, around(asks(api.RuItems, yes), asks(api.RuLeftItems, no)), v, true, many)
	says(t, around(api.Rule{Kind: api.RuContains, N: many, M: many, Subs: []int{yes}}), v, true, many)
	says(t, around(api.Rule{Kind: api.RuContains, N: many + 1, M: -1, Subs: []int{yes}}), v, false, 0)
	v.List[many-1].Kind = api.True
	p := around(asks(api.RuItems, 9))
	p.Forms = append(p.Forms, form(typed("null")))
	says(t, p, v, false, 0)
	p.Forms[tried].Rules[0].Kind = api.RuContains
	p.Forms[tried].Rules[0].M = many
	says(t, p, v, true, many-1)
	o := api.Value{Kind: api.Object, List: v.List}
	props, required := api.Rule{Kind: api.RuProps}, api.Rule{Kind: api.RuRequired}
	for i := range many {
		o.Keys = append(o.Keys, strconv.Itoa(i))
		props.Names, props.Subs = append(props.Names, strconv.Itoa(many/2+i)), append(props.Subs, yes)
	}
	required.Names = o.Keys
	rest := api.Rule{Kind: api.RuRest, Names: props.Names, Subs: []int{yes}}
	says(t, around(props, required), o, true, many/2)
	says(t, around(rest), o, true, many/2)
	says(t, around(rest, props, asks(api.RuNames, text), asks(api.RuLeftProps, no)), o, true, many)
}

// R1: marks of many elements, in a long row of forms that all have them.
func TestLongRowsOfMarks(t *testing.T) {
	const many = 50000
	ref := func(next int) api.Rule { return asks(api.RuRef, next) }
	v := api.Value{Kind: api.Array, List: make([]api.Value, many)}
	p := row(many, ref, asks(api.RuItems, many+1))
	p.Forms = append(p.Forms, api.Form{})
	says(t, p, v, true, many)
}

// P19.1, P19.2: a long chain of resources, each with a name of its own, at whose end all names are asked for.
func TestLongScopes(t *testing.T) {
	const many = 20000
	p := row(many, func(next int) api.Rule { return asks(api.RuRef, next) })
	for i := range many {
		name := strconv.Itoa(i)
		p.Forms[i].Resource = i
		p.Forms[many].Rules = append(p.Forms[many].Rules, dynamic(name, many+1))
		p.Dyns = append(p.Dyns, dyn(name, i, many+2))
	}
	p.Forms[many].Resource = many
	p.Forms = append(p.Forms, api.Form{Never: true}, form(typed("array"), asks(api.RuPrefix, many+3)), form())
	says(t, p, parsed("[1,2]"), true, 1)
	says(t, p, parsed("1"), false, 0)
}

// P19.1: many dynamic references of one name, which many forms have.
func TestManyAnchors(t *testing.T) {
	const many = 20000
	p := api.Prog{Forms: make([]api.Form, 2*many)}
	for i := range many {
		p.Forms[i] = within(i, dynamic("d", many))
		p.Forms[many+i] = within(many+i, typed("null"))
		p.Dyns = append(p.Dyns, dyn("d", i, many+i))
	}
	says(t, p, api.Value{}, true, 0)
	says(t, p, api.Value{Kind: api.True}, false, 0)
	p.Forms[many+7].Rules = append(p.Forms[many+7].Rules, asks(api.RuRef, 9))
	soon(t, func() { refusedQuietly(t, p) })
}

func refusedQuietly(t *testing.T, p api.Prog) {
	t.Helper()
	if ok, l, errno := Sat(p, api.Value{}); ok || len(l) > 0 || errno != api.ErrCycle {
		t.Error(ok, len(l), errno)
	}
}

// P19.2: no more scopes are looked at than the value asks for: those that might come are without number.
func TestScopesThatNeverCome(t *testing.T) {
	const many = 60
	p := api.Prog{Forms: make([]api.Form, 1+2*many)}
	for i := range many {
		p.Forms[0].Rules = append(p.Forms[0].Rules, asks(api.RuItems, 1+i))
		p.Forms[1+i] = within(1+i, asks(api.RuItems, 0), dynamic(strconv.Itoa(i), 1+many+i))
		p.Dyns = append(p.Dyns, dyn(strconv.Itoa(i), 1+i, 1+many+i))
	}
	says(t, p, parsed("[[],[1,[]],[[2]]]"), true, 3)
	// Nor those behind what decides already that a rule is not kept.
	no, yes := len(p.Forms), len(p.Forms)+1
	p.Forms = append(p.Forms, api.Form{Never: true}, form(), form(asks(api.RuAll, no, 0)), form(asks(api.RuOne, yes, yes, 0)), form(asks(api.RuPrefix, no, 0)))
	for p.Root = yes + 1; p.Root < len(p.Forms); p.Root++ {
		says(t, p, api.Value{Kind: api.Array, List: []api.Value{{}, arrays(100)}}, false, 0)
	}
}

// arrays are so many, each in the next one.
func arrays(levels int) api.Value {
	v := api.Value{}
	for range levels {
		v = api.Value{Kind: api.Array, List: []api.Value{v}}
	}
	return v
}

// R1: a long text by a pattern that would blow up where ways are tried one by one.
func TestLongText(t *testing.T) {
	text := make([]byte, 30000)
	for i := range text {
		text[i] = 'a'
	}
	p := around(api.Rule{Kind: api.RuPattern, Pats: []string{"^(a*)*b"}})
	says(t, p, api.Value{Kind: api.String, Text: string(text)}, false, 0)
	says(t, p, api.Value{Kind: api.String, Text: string(text) + "b"}, true, 0)
}
