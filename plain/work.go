package plain

import (
	"slices"

	"caliper/api"
	"caliper/copies"
)

// form is what counts of a form while its rules are made simpler.
type form struct {
	never  bool
	left   int   // how many of its rules have not gone
	askers []int // the numbers of the rules that have it among their Subs
}

// outcome is what became of a rule, by its number. It waits for the round's end, as all of a round hangs on what forms were ahead of it.
type outcome struct {
	rule int
	fate fate
}

// work is a program that is made simpler in rounds, each of which does what one call of Once does. A round looks only at rules that can have changed since the last one: else a row of forms, each of which waits for the next one, would cost the square of its length.
type work struct {
	ways  map[api.RuleKind]way
	forms []form
	rules []rule // those of all forms, form by form
	due   []int  // the numbers of the rules that the next round looks at, rising
}

func begin(p api.Prog) *work {
	w := &work{ways: ways(), forms: make([]form, len(p.Forms))}
	for n, f := range p.Forms {
		w.forms[n].never, w.forms[n].left = f.Never, len(f.Rules)
		for _, r := range f.Rules {
			w.add(rule{Rule: copies.Rule(r), form: n})
		}
	}
	return w
}

func (w *work) add(r rule) {
	number := len(w.rules)
	for _, sub := range r.Subs {
		if sub != noForm {
			w.forms[sub].askers = append(w.forms[sub].askers, number)
		}
	}
	w.rules = append(w.rules, r)
	w.due = append(w.due, number)
}

func (w *work) isYes(n int) bool {
	return !w.forms[n].never && w.forms[n].left == 0
}

func (w *work) isNo(n int) bool {
	return w.forms[n].never
}

// round makes each rule simpler once, and tells whether anything changed.
func (w *work) round() bool {
	outcomes := w.outcomes()
	w.due = nil
	for _, o := range outcomes {
		w.settle(o)
	}
	slices.Sort(w.due)
	w.due = slices.Compact(w.due)
	return len(outcomes) > 0
}

// outcomes are those of the rules that are due, but of those that stay as they are.
func (w *work) outcomes() []outcome {
	var all []outcome
	yes, no := w.isYes, w.isNo
	for _, number := range w.due {
		r := &w.rules[number]
		simpler, ok := w.ways[r.Kind]
		if !ok || r.gone || no(r.form) {
			continue
		}
		if f := simpler(r, yes, no); f != stays {
			all = append(all, outcome{rule: number, fate: f})
		}
	}
	return all
}

// settle does to a rule's form what its outcome asks for. If that makes a yes or a no of the form, the rules that ask it are due.
func (w *work) settle(o outcome) {
	r := &w.rules[o.rule]
	f := &w.forms[r.form]
	if f.never { // another rule of it failed in this round, so its askers are due once
		return
	}
	switch o.fate {
	case turns:
		w.due = append(w.due, o.rule)
		return
	case goes:
		r.gone = true
		f.left--
	case fails:
		f.never = true
	}
	if f.never || f.left == 0 {
		w.due = append(w.due, f.askers...)
	}
}

// program is what p has become.
func (w *work) program(p api.Prog) api.Prog {
	forms := make([]api.Form, len(p.Forms))
	for n, f := range p.Forms {
		forms[n] = api.Form{Never: w.isNo(n), Resource: f.Resource}
	}
	for _, r := range w.rules {
		if !r.gone && !w.isNo(r.form) {
			forms[r.form].Rules = append(forms[r.form].Rules, r.Rule)
		}
	}
	return api.Prog{Forms: forms, Dyns: copies.Row(p.Dyns), Root: p.Root}
}
